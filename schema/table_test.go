package schema_test

import (
	"strings"
	"testing"

	"skerry/api"
	"skerry/schema"
)

// slowTable: the chapter's words on Table, one by one, with each name held against each other one.
func slowTable(t api.Table) api.Errno {
	names := []string{t.Part, t.Row}
	kinds := true
	for _, c := range t.Columns {
		names = append(names, c.Name)
		kinds = kinds && (c.Kind == 1 || c.Kind == 2)
	}
	for _, s := range append([]string{t.Name}, names...) {
		if !good(s) {
			return api.ErrName
		}
	}
	if n := len(t.Columns); n == 0 || n > 6 || !kinds {
		return api.ErrArg
	}
	for i := range names {
		for j := range i {
			if names[i] == names[j] {
				return api.ErrExists
			}
		}
	}
	return api.OK
}

// setName: the table's own name is at place 0, its part's at 1, its row's at 2, its columns' behind these.
func setName(x *api.Table, place int, name string) {
	switch place {
	case 0:
		x.Name = name
	case 1:
		x.Part = name
	case 2:
		x.Row = name
	default:
		x.Columns[place-3].Name = name
	}
}

// full: a table that may be, with so many columns of both kinds.
func full(columns int) api.Table {
	x := tableOf()
	for i := range columns {
		x.Columns = append(x.Columns, column("c"+string(rune('a'+i)), 1+i%2))
	}
	return x
}

// P17.1: tables that may be, of one column to MaxCols.
func TestTable(t *testing.T) {
	for n := 1; n <= api.MaxCols; n++ {
		wantTable(t, full(n), api.OK)
	}
	wantTable(t, tableOf(column("a", api.Int)), api.OK)
	wantTable(t, tableOf(column("a", api.Str)), api.OK)
	wantTable(t, tableOf(ints("f", "e", "d", "c", "b", "a")...), api.OK)
	wantTable(t, api.Table{Name: "people", Part: "city", Row: "number", Columns: []api.Column{column("first_name", api.Str), column("age", api.Int)}}, api.OK)
	wantTable(t, api.Table{}, api.ErrName)
}

// P17.1: the table's own name may be that of its part, of its row or of a column.
func TestTableNameIsApart(t *testing.T) {
	for place := 1; place < 3+api.MaxCols; place++ {
		x := full(api.MaxCols)
		setName(&x, place, x.Name)
		wantTable(t, x, api.OK)
	}
}

// P17.1: names of 1 and of MaxName signs, at each place; what is no name, at each place.
func TestTableNames(t *testing.T) {
	for columns := 1; columns <= api.MaxCols; columns++ {
		for place := range 3 + columns {
			for _, name := range []string{"x", strings.Repeat("x", api.MaxName), "x_1", "selects", "tex"} {
				x := full(columns)
				setName(&x, place, name)
				wantTable(t, x, api.OK)
			}
			for _, name := range noNames() {
				x := full(columns)
				setName(&x, place, name)
				wantTable(t, x, api.ErrName)
			}
		}
	}
}

// P17.1: no column, MaxCols of them, and more.
func TestTableColumns(t *testing.T) {
	wantTable(t, tableOf(), api.ErrArg)
	wantTable(t, tableOf([]api.Column{}...), api.ErrArg)
	wantTable(t, tableOf(make([]api.Column, 0, 5)...), api.ErrArg)
	for n := range 26 {
		want := api.ErrArg
		if n >= 1 && n <= 6 {
			want = api.OK
		}
		wantTable(t, full(n), want)
	}
	many := tableOf(make([]api.Column, 1<<20)...)
	if e := schema.Table(many); e != api.ErrName {
		t.Errorf("Table of very many columns without a name: %v", e)
	}
	for i := range many.Columns {
		many.Columns[i] = column("c", api.Int)
	}
	if e := schema.Table(many); e != api.ErrArg {
		t.Errorf("Table of very many columns: %v", e)
	}
}

// P17.1: a Kind that is neither, at each place.
func TestTableKinds(t *testing.T) {
	for columns := 1; columns <= api.MaxCols; columns++ {
		for place := range columns {
			for _, kind := range noKinds() {
				x := full(columns)
				x.Columns[place].Kind = kind
				wantTable(t, x, api.ErrArg)
			}
			for _, kind := range []int{api.Int, api.Str} {
				x := full(columns)
				x.Columns[place].Kind = kind
				wantTable(t, x, api.OK)
			}
		}
	}
}

// P17.1: two names alike among Part, Row and the columns, each pair, of the same kind or not.
func TestTableTwice(t *testing.T) {
	for columns := 1; columns <= api.MaxCols; columns++ {
		for i := 1; i < 3+columns; i++ {
			for j := i + 1; j < 3+columns; j++ {
				x := full(columns)
				setName(&x, i, "same")
				wantTable(t, x, api.OK)
				setName(&x, j, "same")
				wantTable(t, x, api.ErrExists)
				for k := range x.Columns {
					x.Columns[k].Kind = api.Str
				}
				wantTable(t, x, api.ErrExists)
			}
		}
	}
	wantTable(t, api.Table{Name: "a", Part: "a", Row: "a", Columns: ints("a")}, api.ErrExists)
	wantTable(t, tableOf(ints("aa", "a", "aaa", "a_")...), api.OK)
}

// R2: tables that break several rules: ErrName, then ErrArg, then ErrExists.
func TestTableErrorsOrder(t *testing.T) {
	for _, columns := range []int{0, 1, 2, api.MaxCols, api.MaxCols + 1, api.MaxCols + 3} {
		for place := range 3 + columns {
			for _, name := range []string{"", "select", "A", "x"} {
				for _, kind := range []int{api.None, api.Int, api.Str, 3} {
					for _, alike := range []bool{false, true} {
						x := full(columns)
						if alike {
							x.Part = x.Row
						}
						if columns > 0 {
							x.Columns[columns/2].Kind = kind
						}
						setName(&x, place, name)
						wantTable(t, x, slowTable(x))
					}
				}
			}
		}
	}
	wantTable(t, tableOf(ints("a", "b", "c", "d", "e", "f", "int")...), api.ErrName)
	wantTable(t, tableOf(ints("a", "b", "c", "d", "e", "f", "a")...), api.ErrArg)
	wantTable(t, tableOf(column("a", 3), column("a", api.Int)), api.ErrArg)
	wantTable(t, tableOf(column("", 3), column("", api.Int)), api.ErrName)
	wantTable(t, tableOf(column("a", 3), column("table", api.Int)), api.ErrName)
	wantTable(t, tableOf(column("a", api.Int), column("a", 3)), api.ErrArg)
	wantTable(t, tableOf(column("k", 3)), api.ErrArg)
	wantTable(t, tableOf(column("k", api.Int), column("a", 0)), api.ErrArg)
	wantTable(t, api.Table{Name: "t", Part: "k", Row: "k"}, api.ErrArg)
	wantTable(t, api.Table{Name: "t", Part: "all", Row: "all"}, api.ErrName)
	wantTable(t, api.Table{Name: "one", Part: "k", Row: "k"}, api.ErrName)
}

// anyTable: of few names, so that two are often alike, with few faults, so that some tables may be.
func anyTable(source interface{ IntN(int) int }) api.Table {
	name := func() string {
		if source.IntN(30) == 0 {
			return noNames()[source.IntN(len(noNames()))]
		}
		return string(rune('a' + source.IntN(20)))
	}
	x := api.Table{Name: name(), Part: name(), Row: name()}
	for range source.IntN(8) {
		c := column(name(), 1+source.IntN(2))
		if source.IntN(30) == 0 {
			c.Kind = noKinds()[source.IntN(len(noKinds()))]
		}
		x.Columns = append(x.Columns, c)
	}
	return x
}

// P17.1: random tables, against the chapter's words.
func TestRandomTables(t *testing.T) {
	source := newSource(2)
	told := map[api.Errno]int{}
	for range 50000 {
		x := anyTable(source)
		told[slowTable(x)]++
		wantTable(t, x, slowTable(x))
	}
	for _, e := range []api.Errno{api.OK, api.ErrName, api.ErrArg, api.ErrExists} {
		if told[e] < 1000 {
			t.Errorf("%v was told %d times alone", e, told[e])
		}
	}
}

// P17.1: the first column of a name, whatever the table is.
func TestColumn(t *testing.T) {
	x := tableOf(column("a", api.Int), column("b", api.Str), column("a", api.Str), column("c", 7), column("", 9), column("", api.Int), column("B", api.Int))
	wantColumn(t, x, "a", column("a", api.Int), true)
	wantColumn(t, x, "b", column("b", api.Str), true)
	wantColumn(t, x, "c", column("c", 7), true)
	wantColumn(t, x, "", column("", 9), true)
	wantColumn(t, x, "B", column("B", api.Int), true)
	for _, name := range []string{"t", "k", "r", "d", "aa", "ab", "A", " a", "a ", "a\x00", "C"} {
		wantColumn(t, x, name, api.Column{}, false)
	}
	for _, y := range []api.Table{{}, tableOf(), full(api.MaxCols)} {
		for _, name := range append(noNames(), "t", "k", "r") {
			wantColumn(t, y, name, api.Column{}, false)
		}
	}
	for n := range 20 {
		y := full(n)
		for i, c := range y.Columns {
			wantColumn(t, y, c.Name, y.Columns[i], true)
		}
	}
}

// P17.1: the first table of a name, whatever the tables are.
func TestFind(t *testing.T) {
	first := api.Table{Name: "a", Part: "k", Row: "r", Columns: ints("x", "y")}
	second := api.Table{Name: "b", Part: "l", Row: "s", Columns: ints("x", "x", "x", "x", "x", "x", "x")}
	third := api.Table{Name: "a", Part: "m", Row: "u", Columns: ints("z")}
	empty, other := api.Table{Part: "k"}, api.Table{Columns: ints("v")}
	great := api.Table{Name: "A"}
	l := []api.Table{first, second, third, empty, other, great}
	wantFind(t, l, "a", first, true)
	wantFind(t, l, "b", second, true)
	wantFind(t, l, "", empty, true)
	wantFind(t, l, "A", great, true)
	wantFind(t, l[1:], "a", third, true)
	wantFind(t, l[4:], "", other, true)
	for _, name := range []string{"k", "r", "x", "aa", "ab", "c", "B", " a", "a ", "a\x00", "select"} {
		wantFind(t, l, name, api.Table{}, false)
	}
	for _, name := range []string{"", "a", "b", "select"} {
		wantFind(t, nil, name, api.Table{}, false)
		wantFind(t, []api.Table{}, name, api.Table{}, false)
		wantFind(t, l[:0], name, api.Table{}, false)
	}
	wantFind(t, l[:3], "", api.Table{}, false)
}
