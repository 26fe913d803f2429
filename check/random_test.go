package check_test

import (
	"math"
	"math/rand/v2"
	"slices"
	"strings"
	"testing"

	"skerry/api"
)

func newSource(seed uint64) *rand.Rand { return rand.New(rand.NewPCG(seed, 0)) }

func anyOf[T any](source *rand.Rand, l []T) T { return l[source.IntN(len(l))] }

func anyNumber(source *rand.Rand) int {
	return anyOf(source, []int{0, 1, -1, 5, 1000, math.MaxInt, math.MinInt, math.MinInt + 1, source.Int()})
}

func anyText(source *rand.Rand) string {
	return anyOf(source, []string{"x", "y", "it's", "/", "\x00", "\xff%", strings.Repeat("z", api.MaxText)})
}

func anyValue(source *rand.Rand, kind int) api.Value {
	if kind == api.Int {
		return number(anyNumber(source))
	}
	return text(anyOf(source, []string{"", anyText(source)}))
}

// shuffled: a list of its own, in some order.
func shuffled[T any](source *rand.Rand, l []T) []T {
	l = slices.Clone(l)
	source.Shuffle(len(l), func(i, j int) { l[i], l[j] = l[j], l[i] })
	return l
}

// anyTables: 1 to 4 tables that may be.
func anyTables(source *rand.Rand) []api.Table {
	var l []api.Table
	for _, name := range shuffled(source, []string{"t", "u", "k", "a"})[:1+source.IntN(4)] {
		names := shuffled(source, []string{"t", "k", "r", "a", "b", "c", "d", "e_1", "zz", "abcdefghijklmnop"})
		x := api.Table{Name: name, Part: names[0], Row: names[1]}
		for _, column := range names[2 : 3+source.IntN(6)] {
			x.Columns = append(x.Columns, api.Column{Name: column, Kind: 1 + source.IntN(2)})
		}
		l = append(l, x)
	}
	return l
}

func columnsOf(x api.Table) []string {
	var l []string
	for _, c := range x.Columns {
		l = append(l, c.Name)
	}
	return l
}

// fitting: a statement that fits a table, and is no CREATE.
func fitting(source *rand.Rand, x api.Table) api.Statement {
	q := api.Statement{Kind: 2 + source.IntN(4), Table: x.Name, Level: source.IntN(4)}
	part, row := anyText(source), anyNumber(source)
	for _, c := range shuffled(source, x.Columns)[:1+source.IntN(len(x.Columns))] {
		if q.Kind == api.DoInsert || q.Kind == api.DoUpdate {
			q.Items = append(q.Items, set(c.Name, anyValue(source, c.Kind)))
		} else if source.IntN(3) > 0 {
			q.Columns = append(q.Columns, c.Name)
		}
	}
	if q.Kind == api.DoInsert {
		q.Items = append(q.Items[source.IntN(len(q.Items)+1):], set(x.Part, text(part)), set(x.Row, number(row)))
		q.Items = shuffled(source, q.Items)
	} else {
		q.Where = shuffled(source, []api.Cond{cond(x.Part, "=", text(part)), cond(x.Row, "=", number(row))})
	}
	if q.Kind == api.DoSelect {
		q.Limit = anyOf(source, []int{-1, 0, 1, 1000000})
		q.Where = shuffled(source, append([]api.Cond{cond(x.Part, "=", text(part))}, anyRows(source, x.Row)...))
	} else if source.IntN(2) == 0 {
		q.Timed, q.Time = true, anyNumber(source)
	}
	return q
}

// anyRows: conditions on the row, as a SELECT may have them.
func anyRows(source *rand.Rand, row string) []api.Cond {
	if source.IntN(3) == 0 {
		return []api.Cond{cond(row, "=", number(anyNumber(source)))}
	}
	l := []api.Cond{cond(row, ">=", number(anyNumber(source))), cond(row, "<", number(anyNumber(source)))}
	return l[source.IntN(3):]
}

// P20.1, P20.2 and P20.3: statements that fit, over any tables.
func TestRandomPlans(t *testing.T) {
	source := newSource(2)
	for range 20000 {
		tables := anyTables(source)
		if e := wantSlow(t, fitting(source, anyOf(source, tables)), tables, 1+source.IntN(3)); e != api.OK {
			t.Fatalf("%v", e)
		}
	}
}

// P20.1: statements that fit another table, or are changed at some places.
func TestRandomFaults(t *testing.T) {
	source := newSource(3)
	told := map[api.Errno]int{}
	for range 60000 {
		tables := anyTables(source)
		x := anyOf(source, tables)
		q := fitting(source, x)
		for range source.IntN(3) {
			change(source, &q, x)
		}
		if source.IntN(5) == 0 {
			q.Table = anyOf(source, []string{"t", "u", "k", "a", "z"})
		}
		told[wantSlow(t, q, tables, source.IntN(6)-1)]++
	}
	for _, e := range []api.Errno{api.OK, api.ErrSyntax, api.ErrColumn, api.ErrExists, api.ErrType, api.ErrArg, api.ErrTable} {
		if told[e] < 300 {
			t.Errorf("%v: %d", e, told[e])
		}
	}
}

// change makes one place of a statement another one.
func change(source *rand.Rand, q *api.Statement, x api.Table) {
	names := append(columnsOf(x), x.Part, x.Row, "zz", "none", "select")
	switch source.IntN(9) {
	case 0:
		for _, i := range source.Perm(len(q.Items))[:min(1, len(q.Items))] {
			q.Items[i].Column = anyOf(source, names)
		}
	case 1:
		for _, i := range source.Perm(len(q.Items))[:min(1, len(q.Items))] {
			q.Items[i].Value = anyValue(source, source.IntN(3))
		}
	case 2:
		q.Items = slices.Delete(q.Items, 0, min(1, len(q.Items)))
	case 3:
		q.Items = append(q.Items, set(anyOf(source, names), anyValue(source, source.IntN(3))))
	case 4:
		q.Columns = append(q.Columns, anyOf(source, names))
	case 5:
		for _, i := range source.Perm(len(q.Where))[:min(1, len(q.Where))] {
			q.Where[i].Op = anyOf(source, []string{"=", ">=", "<", ">"})
		}
	case 6:
		for _, i := range source.Perm(len(q.Where))[:min(1, len(q.Where))] {
			q.Where[i].Column = anyOf(source, []string{x.Part, x.Row, anyOf(source, names)})
		}
	case 7:
		for _, i := range source.Perm(len(q.Where))[:min(1, len(q.Where))] {
			q.Where[i].Value = anyValue(source, source.IntN(3))
		}
	case 8:
		q.Where = append(q.Where, cond(anyOf(source, []string{x.Part, x.Row}), anyOf(source, []string{"=", ">=", "<"}), anyValue(source, 1+source.IntN(2))))
	}
}

// P20.1: CREATE of any table, of those that may be and others.
func TestRandomCreates(t *testing.T) {
	source := newSource(4)
	told := map[api.Errno]int{}
	for range 5000 {
		tables := anyTables(source)
		x := anyTables(source)[0]
		x.Name = anyOf(source, []string{x.Name, "z", "zz"})
		for range source.IntN(2) {
			x.Columns[source.IntN(len(x.Columns))].Name = anyOf(source, append(columnsOf(x), x.Part, x.Row, "none", "text"))
		}
		q := api.Statement{Kind: api.DoCreate, Table: x.Name, Schema: x}
		told[wantSlow(t, q, tables, source.IntN(6)-1)]++
	}
	for _, e := range []api.Errno{api.OK, api.ErrSyntax, api.ErrExists, api.ErrFull} {
		if told[e] < 100 {
			t.Errorf("%v: %d", e, told[e])
		}
	}
}
