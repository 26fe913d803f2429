package schema_test

import (
	"slices"
	"testing"

	"skerry/api"
	"skerry/schema"
)

// P17.2: columns in any order, each once.
func TestOrder(t *testing.T) {
	x := someTable()
	for _, c := range []struct{ columns, want []string }{
		{[]string{"a"}, []string{"a"}},
		{[]string{"d"}, []string{"d"}},
		{[]string{"a", "b"}, []string{"a", "b"}},
		{[]string{"b", "a"}, []string{"a", "b"}},
		{[]string{"d", "b"}, []string{"b", "d"}},
		{[]string{"d", "c", "b", "a"}, []string{"a", "b", "c", "d"}},
		{[]string{"c", "a", "d", "b"}, []string{"a", "b", "c", "d"}},
		{[]string{"a", "a"}, []string{"a"}},
		{[]string{"d", "a", "d", "a", "a"}, []string{"a", "d"}},
		{[]string{"c", "c", "c", "c", "c", "c", "c", "c", "c", "c", "c"}, []string{"c"}},
	} {
		wantOrder(t, x, c.columns, c.want, true)
	}
	// The table's order is not that of the names' bytes.
	wantOrder(t, tableOf(ints("z", "a", "m")...), []string{"a", "m", "z"}, []string{"z", "a", "m"}, true)
	wantOrder(t, tableOf(ints("z", "a", "m")...), []string{"m", "z"}, []string{"z", "m"}, true)
}

// P17.2: none given, nil or empty: all of the table's.
func TestOrderOfNone(t *testing.T) {
	for _, none := range [][]string{nil, {}, make([]string, 0, 4), []string{"x", "y"}[:0]} {
		wantOrder(t, someTable(), none, []string{"a", "b", "c", "d"}, true)
		wantOrder(t, tableOf(ints("z", "a", "m")...), none, []string{"z", "a", "m"}, true)
		wantOrder(t, tableOf(), none, nil, true)
		wantOrder(t, api.Table{}, none, nil, true)
	}
}

// P17.2: one that is none of the table's, at each place, its part's and its row's names among them.
func TestOrderOfOthers(t *testing.T) {
	for _, name := range []string{"", "k", "r", "t", "e", "A", "aa", "ab", "a ", " a", "a\x00", "select", "\xff"} {
		wantOrder(t, someTable(), []string{name}, nil, false)
		wantOrder(t, tableOf(), []string{name}, nil, false)
		wantOrder(t, api.Table{}, []string{name}, nil, false)
		whole := []string{"a", "b", "c", "d", "a"}
		for i := range len(whole) + 1 {
			wantOrder(t, someTable(), slices.Insert(slices.Clone(whole), i, name), nil, false)
		}
	}
	wantOrder(t, tableOf(), []string{"a"}, nil, false)
}

// P17.2 and P17.3: tables whose columns have one name twice, or a name that may not be: each name once, where it stands first.
func TestOrderOddTables(t *testing.T) {
	twice := tableOf(column("b", api.Int), column("a", api.Int), column("b", api.Str), column("c", 7), column("a", api.Str))
	wantOrder(t, twice, nil, []string{"b", "a", "c"}, true)
	wantOrder(t, twice, []string{"c", "a", "b"}, []string{"b", "a", "c"}, true)
	wantOrder(t, twice, []string{"a", "b"}, []string{"b", "a"}, true)
	wantOrder(t, twice, []string{"a", "a"}, []string{"a"}, true)
	wantOrder(t, tableOf(ints("a", "a", "a")...), nil, []string{"a"}, true)
	wantOrder(t, tableOf(ints("a", "a", "a")...), []string{"a"}, []string{"a"}, true)

	odd := tableOf(ints("select", "", "A", "k", "r", "")...)
	wantOrder(t, odd, nil, []string{"select", "", "A", "k", "r"}, true)
	wantOrder(t, odd, []string{"r", ""}, []string{"", "r"}, true)
	wantOrder(t, odd, []string{""}, []string{""}, true)
}

// slowOrder: each column of the table is looked for in what was given, and in what is told already.
func slowOrder(x api.Table, columns []string) ([]string, bool) {
	for _, name := range columns {
		if _, ok := schema.Column(x, name); !ok {
			return nil, false
		}
	}
	var out []string
	for _, c := range x.Columns {
		if (len(columns) == 0 || slices.Contains(columns, c.Name)) && !slices.Contains(out, c.Name) {
			out = append(out, c.Name)
		}
	}
	return out, true
}

// P17.2 and P17.3: random columns of random tables; no name twice, and all that were given.
func TestRandomOrder(t *testing.T) {
	source := newSource(4)
	names := []string{"a", "b", "c", "d", "e", ""}
	right, wrong := 0, 0
	for range 50000 {
		x := tableOf()
		for range source.IntN(9) {
			x.Columns = append(x.Columns, column(anyOf(source, names), source.IntN(4)))
		}
		var columns []string
		for range source.IntN(5) {
			columns = append(columns, anyOf(source, names))
		}
		want, ok := slowOrder(x, columns)
		wantOrder(t, x, columns, want, ok)
		got, ok := schema.Order(x, columns)
		if !ok {
			wrong++
			continue
		}
		right++
		seen := map[string]bool{}
		for _, name := range got {
			if seen[name] {
				t.Errorf("Order(%+v, %q): %q twice", x, columns, name)
			}
			seen[name] = true
		}
		for _, name := range columns {
			if !seen[name] {
				t.Errorf("Order(%+v, %q): no %q", x, columns, name)
			}
		}
		if len(columns) > 0 && len(seen) > len(columns) {
			t.Errorf("Order(%+v, %q): %q, more than was given", x, columns, got)
		}
	}
	if right < 1000 || wrong < 1000 {
		t.Errorf("%d times true, %d times false", right, wrong)
	}
}

// P17.3: each choice of a table's columns, in the order of the table and the other way round.
func TestOrderOfEachChoice(t *testing.T) {
	x := full(api.MaxCols)
	for choice := 1; choice < 1<<api.MaxCols; choice++ {
		var want []string
		for i, c := range x.Columns {
			if choice>>i&1 == 1 {
				want = append(want, c.Name)
			}
		}
		back := slices.Clone(want)
		slices.Reverse(back)
		wantOrder(t, x, want, want, true)
		wantOrder(t, x, back, want, true)
		wantOrder(t, x, slices.Concat(back, want, back), want, true)
	}
	whole, _ := schema.Order(x, nil)
	again, ok := schema.Order(x, whole)
	if !ok || !slices.Equal(whole, again) {
		t.Errorf("Order of what Order told: %q %v, want %q", again, ok, whole)
	}
}

// R1: long lists are gone through in time.
func TestOrderOfLongLists(t *testing.T) {
	const many = 100000
	var columns []string
	x := tableOf()
	for i := range many {
		name := "c" + string(rune('a'+i%26)) + string(rune('a'+i/26%26)) + string(rune('a'+i/26/26%26)) + string(rune('a'+i/26/26/26%26))
		x.Columns = append(x.Columns, column(name, api.Int))
		columns = append(columns, name)
	}
	slices.Reverse(columns)
	got, ok := schema.Order(x, columns)
	if slices.Reverse(columns); !ok || !slices.Equal(got, columns) {
		t.Errorf("Order of %d columns: %d, %v", many, len(got), ok)
	}
	if got, ok := schema.Order(x, append(columns, "c")); ok || len(got) > 0 {
		t.Errorf("Order of %d columns and another one: %d, %v", many, len(got), ok)
	}
}
