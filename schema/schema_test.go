package schema_test

import (
	"math"
	"math/rand/v2"
	"slices"
	"testing"

	"skerry/api"
	"skerry/schema"
)

// The seeds are written out, so that a test that failed fails again.
func newSource(seed uint64) *rand.Rand {
	return rand.New(rand.NewPCG(seed, 0))
}

func anyOf[T any](source *rand.Rand, l []T) T {
	return l[source.IntN(len(l))]
}

func column(name string, kind int) api.Column {
	return api.Column{Name: name, Kind: kind}
}

// tableOf: t, with k and r as its part's and its row's names.
func tableOf(columns ...api.Column) api.Table {
	return api.Table{Name: "t", Part: "k", Row: "r", Columns: columns}
}

// ints: a table's columns of these names, all of them Int.
func ints(names ...string) []api.Column {
	var out []api.Column
	for _, name := range names {
		out = append(out, column(name, api.Int))
	}
	return out
}

// noKinds: those that no column may have, such as are kinds in 8, 16 or 32 bits alone among them.
func noKinds() []int {
	return []int{api.None, 3, 4, -1, -2, 255, 256, 257, 258, 1<<16 + 1, 1<<32 + 1, 1<<32 + 2, 1<<32 + 3, -1<<32 + 1, math.MinInt, math.MinInt + 1, math.MinInt + 2, math.MaxInt}
}

func same(a, b api.Table) bool {
	return a.Name == b.Name && a.Part == b.Part && a.Row == b.Row && slices.Equal(a.Columns, b.Columns)
}

// copyOf: a table whose columns no other one has.
func copyOf(t api.Table) api.Table {
	t.Columns = append([]api.Column{}, t.Columns...)
	return t
}

func wantName(t *testing.T, s string, want bool) {
	t.Helper()
	if got := schema.Name(s); got != want {
		t.Errorf("Name(%.60q): %v, want %v", s, got, want)
	}
}

func wantTable(t *testing.T, x api.Table, want api.Errno) {
	t.Helper()
	if got := schema.Table(x); got != want {
		t.Errorf("Table(%+v): %v, want %v", x, got, want)
	}
}

func wantColumn(t *testing.T, x api.Table, name string, want api.Column, ok bool) {
	t.Helper()
	if got, found := schema.Column(x, name); got != want || found != ok {
		t.Errorf("Column(%+v, %q): %v %v, want %v %v", x, name, got, found, want, ok)
	}
}

func wantFind(t *testing.T, l []api.Table, name string, want api.Table, ok bool) {
	t.Helper()
	if got, found := schema.Find(l, name); !same(got, want) || found != ok {
		t.Errorf("Find(%+v, %q): %+v %v, want %+v %v", l, name, got, found, want, ok)
	}
}

func wantFits(t *testing.T, x api.Table, c api.Cell, want bool) {
	t.Helper()
	if got := schema.Fits(x, c); got != want {
		t.Errorf("Fits(%+v, %#v): %v, want %v", x, c, got, want)
	}
}

func wantOrder(t *testing.T, x api.Table, columns, want []string, ok bool) {
	t.Helper()
	if got, good := schema.Order(x, columns); !slices.Equal(got, want) || good != ok {
		t.Errorf("Order(%+v, %q): %q %v, want %q %v", x, columns, got, good, want, ok)
	}
}

// P17.1 and P17.2: the example of the chapter.
func TestExample(t *testing.T) {
	wantTable(t, tableOf(column("a", api.Int), column("a", api.Str)), api.ErrExists)
	wantName(t, "select", false)
	wantOrder(t, tableOf(column("a", api.Int), column("b", api.Str)), []string{"b", "a", "b"}, []string{"a", "b"}, true)
	wantOrder(t, tableOf(column("a", api.Int), column("a", api.Str), column("b", api.Str)), []string{"b", "a", "b"}, []string{"a", "b"}, true)
}
