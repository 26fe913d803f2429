package schema_test

import (
	"slices"
	"testing"

	"skerry/api"
	"skerry/schema"
)

// withRoom: a table whose columns have others behind their end, in the room of their own memory.
func withRoom(x api.Table) (api.Table, []api.Column) {
	whole := slices.Concat(x.Columns, []api.Column{column("behind", api.Int), {}, column("a", api.Str), column("more", api.Int)})
	x.Columns = whole[:len(x.Columns)]
	return x, whole
}

// spoil changes a list and the room behind its end.
func spoil[T any](l []T, with T) {
	l = l[:cap(l)]
	for i := range l {
		l[i] = with
	}
}

// someTables: those that may be, and others.
func someTables() []api.Table {
	return []api.Table{
		{}, tableOf(), full(1), full(3), full(api.MaxCols), full(api.MaxCols + 1), someTable(),
		tableOf(ints("a", "b", "a")...), tableOf(ints("select")...), tableOf(column("a", 3)), tableOf(column("", 0)),
	}
}

// R3: no call changes a table, nor what is behind its columns' end, nor looks there.
func TestTablesStay(t *testing.T) {
	for _, given := range someTables() {
		x, whole := withRoom(given)
		before, room := copyOf(x), slices.Clone(whole)
		wantTable(t, x, slowTable(x))
		for _, name := range []string{"behind", "more", "a", "", "k"} {
			c, ok := schema.Column(x, name)
			if i := slices.IndexFunc(before.Columns, func(c api.Column) bool { return c.Name == name }); ok != (i >= 0) || ok && c != before.Columns[i] {
				t.Errorf("Column(%+v, %q): %v %v", x, name, c, ok)
			}
			wantFits(t, x, in(name, live(api.Int, 1, "")), slowFits(before, in(name, live(api.Int, 1, ""))))
			want, ok := slowOrder(before, []string{name})
			wantOrder(t, x, []string{name}, want, ok)
		}
		want, ok := slowOrder(before, nil)
		wantOrder(t, x, nil, want, ok)
		if !same(x, before) || !slices.Equal(whole, room) {
			t.Errorf("%+v and %v behind it, %+v and %v at first", x, whole, before, room)
		}
	}
}

// R3: a table that Find told has columns of its own, and leaves the list and what is behind it as it was.
func TestFindIsNew(t *testing.T) {
	for _, given := range someTables() {
		given.Name = "found"
		x, whole := withRoom(given)
		room := slices.Clone(whole)
		l := []api.Table{full(2), x, {Name: "found"}, {Name: "behind"}}
		first, ok := schema.Find(l[:3], "found")
		second, _ := schema.Find(l[:3], "found")
		if !ok || !same(first, given) || !same(second, given) {
			t.Fatalf("Find: %+v %+v %v, want %+v", first, second, ok, given)
		}
		wantFind(t, l[:3], "behind", api.Table{}, false)
		behind := first.Columns[:cap(first.Columns)][len(given.Columns):]
		if slices.ContainsFunc(behind, func(c api.Column) bool { return c != api.Column{} }) {
			t.Errorf("behind the end of an answer stands what stood behind the table's: %v", behind)
		}
		spoil(first.Columns, column("spoilt", 77))
		_ = append(first.Columns, column("spoilt", 77))
		if !slices.Equal(whole, room) || !same(l[1], given) || !same(second, given) {
			t.Errorf("what was done to an answer is seen: %+v %+v, want %+v", l, second, given)
		}
		spoil(whole, column("spoilt", 78))
		spoil(l, api.Table{Name: "spoilt"})
		if !same(second, given) {
			t.Errorf("what was done to the list is seen in the answer: %+v, want %+v", second, given)
		}
	}
}

// R3: what Order told is new, and leaves the columns that were given, and what is behind them, as they were.
func TestOrderIsNew(t *testing.T) {
	for _, given := range [][]string{nil, {"a"}, {"d", "c", "b", "a"}, {"a", "b", "c", "d"}, {"b", "b", "a"}, {"b", "none", "a"}} {
		whole := slices.Concat(given, []string{"behind", "", "a", "none"})
		columns := whole[:len(given)]
		before := slices.Clone(whole)
		x, room := withRoom(someTable())
		roomBefore := slices.Clone(room)
		want, _ := slowOrder(x, given)
		first, _ := schema.Order(x, columns)
		second, _ := schema.Order(x, columns)
		spoil(first, "spoilt")
		_ = append(first, "spoilt")
		if !slices.Equal(whole, before) || !slices.Equal(room, roomBefore) || !slices.Equal(second, want) {
			t.Errorf("what was done to an answer is seen: %q %v %q, want %q", whole, room, second, want)
		}
		spoil(whole, "spoilt")
		spoil(room, column("spoilt", 77))
		if !slices.Equal(second, want) {
			t.Errorf("what was done to the columns is seen in the answer: %q, want %q", second, want)
		}
	}
}

// R4: an answer is the same whatever was asked ahead of it, and in whichever order.
func TestNothingIsKept(t *testing.T) {
	type answers struct {
		name, column, found, fits, ordered bool
		table                              api.Errno
		told                               api.Column
		columns                            int
	}
	texts := append(noNames(), "a", "b", "t", "found", "c1")
	ask := func(i int) answers {
		x, s := someTables()[i%len(someTables())], texts[i%len(texts)]
		a := answers{name: schema.Name(s), table: schema.Table(x), fits: schema.Fits(x, in(s, live(api.Int, 1, "")))}
		a.told, a.column = schema.Column(x, s)
		_, a.found = schema.Find(someTables(), s)
		columns, ok := schema.Order(x, []string{s}[:i%2])
		a.columns, a.ordered = len(columns), ok
		return a
	}
	const many = 2000
	var first [many]answers
	for i := range many {
		first[i] = ask(i)
	}
	for i := many - 1; i >= 0; i-- {
		if got := ask(i); got != first[i] {
			t.Fatalf("call %d: %v, and %v at first", i, got, first[i])
		}
	}
}

// R4: calls at the same time answer the same, and none writes what another one reads (asked with -race).
func TestAtTheSameTime(t *testing.T) {
	x, l := full(api.MaxCols), someTables()
	done := make(chan bool)
	const many = 8
	for range many {
		go func() {
			ok := true
			for range 200 {
				columns, ordered := schema.Order(x, []string{"cb", "ca"})
				c, column := schema.Column(x, "ca")
				_, found := schema.Find(l, "t")
				ok = ok && ordered && slices.Equal(columns, []string{"ca", "cb"}) && column && c.Kind == api.Int && found
				ok = ok && schema.Name("a") && !schema.Name("int") && schema.Table(x) == api.OK && schema.Fits(x, in("ca", live(api.Int, 1, "")))
			}
			done <- ok
		}()
	}
	for range many {
		if !<-done {
			t.Error("an answer is another one")
		}
	}
}
