package schema_test

import (
	"math"
	"strings"
	"testing"

	"skerry/api"
	"skerry/cell"
	"skerry/schema"
)

func live(kind, n int, s string) api.Version {
	return api.Version{Time: 5, Value: api.Value{Kind: kind, N: n, S: s}}
}

func dead(local int) api.Version {
	return api.Version{Time: 5, Dead: true, Local: local}
}

// in: a cell of table t, in this column.
func in(column string, v api.Version) api.Cell {
	return api.Cell{Key: api.Key{Table: "t", Part: "p", Row: 3, Column: column}, Version: v}
}

// goodVersions: some of each kind; those of a mark, of an Int, of a Str, and dead ones.
func goodVersions() map[int][]api.Version {
	return map[int][]api.Version{
		api.None: {live(api.None, 0, ""), {}, {Time: math.MinInt}, {Time: math.MaxInt}},
		api.Int:  {live(api.Int, 0, ""), live(api.Int, 7, ""), live(api.Int, math.MinInt, ""), live(api.Int, math.MaxInt, "")},
		api.Str:  {live(api.Str, 0, ""), live(api.Str, 0, "s"), live(api.Str, 0, "\xff"), live(api.Str, 0, strings.Repeat("s", api.MaxText))},
	}
}

func deadVersions() []api.Version {
	return []api.Version{dead(0), dead(9), dead(-1), dead(math.MinInt), dead(math.MaxInt), {Time: math.MaxInt, Dead: true}}
}

// badVersions: those that no cell may have, in whichever column.
func badVersions() []api.Version {
	out := []api.Version{
		live(api.None, 1, ""), live(api.None, 0, "s"), live(api.Int, 1, "s"), live(api.Str, 1, "s"), live(api.Str, 0, strings.Repeat("s", api.MaxText+1)),
		{Local: 1}, {Local: 1, Value: api.Value{Kind: api.Int}}, {Local: 1, Value: api.Value{Kind: api.Str}},
		{Dead: true, Value: api.Value{Kind: api.Int}}, {Dead: true, Value: api.Value{Kind: api.Str}}, {Dead: true, Value: api.Value{N: 1}}, {Dead: true, Value: api.Value{S: "s"}},
	}
	for _, kind := range noKinds() {
		if kind != api.None {
			out = append(out, live(kind, 0, ""), api.Version{Dead: true, Value: api.Value{Kind: kind}})
		}
	}
	return out
}

// someTable: a and c are Ints, b and d are Strs.
func someTable() api.Table {
	return tableOf(column("a", api.Int), column("b", api.Str), column("c", api.Int), column("d", api.Str))
}

// P17.2: live cells of each kind, in columns of each kind and in the mark.
func TestFitsLive(t *testing.T) {
	kinds := map[string]int{"": api.None, "a": api.Int, "b": api.Str, "c": api.Int, "d": api.Str}
	for name, want := range kinds {
		for kind, versions := range goodVersions() {
			for _, v := range versions {
				wantFits(t, someTable(), in(name, v), kind == want)
			}
		}
	}
}

// P17.2: dead cells, in each column and in the mark, whatever the column's Kind.
func TestFitsDead(t *testing.T) {
	for _, name := range []string{"", "a", "b", "c", "d"} {
		for _, v := range deadVersions() {
			wantFits(t, someTable(), in(name, v), true)
		}
	}
	for _, kind := range noKinds() {
		wantFits(t, tableOf(column("a", kind)), in("a", dead(1)), true)
	}
}

// P17.2: cells that are not good fit nowhere.
func TestFitsNotGood(t *testing.T) {
	for _, name := range []string{"", "a", "b"} {
		for _, v := range badVersions() {
			wantFits(t, someTable(), in(name, v), false)
		}
	}
	for _, part := range []string{"", strings.Repeat("p", api.MaxText+1)} {
		for _, c := range []api.Cell{in("", live(api.None, 0, "")), in("a", live(api.Int, 1, "")), in("b", live(api.Str, 0, "s")), in("a", dead(1)), in("", dead(1))} {
			wantFits(t, someTable(), c, true)
			c.Key.Part = part
			wantFits(t, someTable(), c, false)
		}
	}
	for _, name := range []string{"A", "_", "1", "a b", "é", strings.Repeat("a", api.MaxName+1)} {
		wantFits(t, tableOf(column(name, api.Int)), in(name, live(api.Int, 1, "")), false)
		wantFits(t, tableOf(column(name, api.Int)), in(name, dead(1)), false)
		x := someTable()
		x.Name = name
		c := in("a", live(api.Int, 1, ""))
		c.Key.Table = name
		wantFits(t, x, c, false)
	}
	x := someTable()
	x.Name = ""
	wantFits(t, x, api.Cell{Key: api.Key{Part: "p"}}, false)
	wantFits(t, api.Table{}, api.Cell{}, false)
}

// P17.2: cells of another table.
func TestFitsOtherTable(t *testing.T) {
	for _, name := range []string{"", "tt", "T", "u", "k", "r", "a", "t1", "t_"} {
		for _, c := range []api.Cell{in("", live(api.None, 0, "")), in("a", live(api.Int, 1, "")), in("b", live(api.Str, 0, "s")), in("a", dead(1)), in("", dead(1))} {
			c.Key.Table = name
			wantFits(t, someTable(), c, false)
			x := someTable()
			x.Name = name
			c.Key.Table = "t"
			wantFits(t, x, c, false)
		}
	}
}

// P17.2: columns that are none of the table's, its part's and its row's names among them.
func TestFitsOtherColumn(t *testing.T) {
	for _, x := range []api.Table{someTable(), tableOf(column("a", api.Str)), tableOf(), {Name: "t"}} {
		for _, name := range []string{"k", "r", "t", "e", "aa", "ab", "a1", "a_", "none", "select"} {
			for _, versions := range goodVersions() {
				for _, v := range versions {
					wantFits(t, x, in(name, v), false)
				}
			}
			for _, v := range deadVersions() {
				wantFits(t, x, in(name, v), false)
			}
		}
	}
}

// P17.2: rows, times and partitions may be any, at their ends, too.
func TestFitsAnyKey(t *testing.T) {
	for _, row := range []int{math.MinInt, -1, 0, 1, math.MaxInt} {
		for _, time := range []int{math.MinInt, -1, 0, 1, math.MaxInt} {
			for _, part := range []string{"p", "\x00", "\xff", "é", strings.Repeat("p", api.MaxText)} {
				c := api.Cell{Key: api.Key{Table: "t", Part: part, Row: row, Column: "a"}, Version: api.Version{Time: time, Value: api.Value{Kind: api.Int}}}
				wantFits(t, someTable(), c, true)
				c.Version = api.Version{Time: time, Dead: true, Local: row}
				wantFits(t, someTable(), c, true)
				c.Key.Column = "b"
				c.Version = api.Version{Time: time, Value: api.Value{Kind: api.Int}}
				wantFits(t, someTable(), c, false)
			}
		}
	}
}

// P17.2 and R7: of tables that may not be, too; of columns with one name the first one counts, and the mark is none of the columns.
func TestFitsOddTables(t *testing.T) {
	twice := tableOf(column("a", api.Int), column("a", api.Str))
	wantFits(t, twice, in("a", live(api.Int, 1, "")), true)
	wantFits(t, twice, in("a", live(api.Str, 0, "s")), false)
	twice = tableOf(column("b", api.Int), column("a", api.Str), column("a", api.Int))
	wantFits(t, twice, in("a", live(api.Int, 1, "")), false)
	wantFits(t, twice, in("a", live(api.Str, 0, "s")), true)

	for _, kind := range append(noKinds(), api.Int, api.Str) {
		mark := tableOf(column("", kind), column("a", kind))
		wantFits(t, mark, in("", live(api.None, 0, "")), true)
		wantFits(t, mark, in("", dead(1)), true)
		wantFits(t, mark, in("", live(api.Int, 1, "")), false)
		wantFits(t, mark, in("", live(api.Str, 0, "s")), false)
		wantFits(t, mark, in("a", live(api.None, 0, "")), false)
		wantFits(t, mark, in("a", live(api.Int, 1, "")), kind == api.Int)
		wantFits(t, mark, in("a", live(api.Str, 0, "s")), kind == api.Str)
	}

	word := api.Table{Name: "select", Columns: ints("from")}
	c := in("from", live(api.Int, 1, ""))
	c.Key.Table = "select"
	wantFits(t, word, c, true)
	wantFits(t, tableOf(), in("", live(api.None, 0, "")), true)
	wantFits(t, tableOf(), in("", dead(1)), true)
}

// slowFits: the chapter's words on Fits, one by one.
func slowFits(x api.Table, c api.Cell) bool {
	if !cell.Good(c) || c.Key.Table != x.Name {
		return false
	}
	if c.Key.Column == "" {
		return true // a good mark is dead, or of Kind None
	}
	for _, column := range x.Columns {
		if column.Name == c.Key.Column {
			return c.Version.Dead || c.Version.Value.Kind == column.Kind
		}
	}
	return false
}

// P17.2: random cells and tables, against the chapter's words.
func TestRandomFits(t *testing.T) {
	source := newSource(3)
	var versions []api.Version
	for _, l := range goodVersions() {
		versions = append(versions, l...)
	}
	versions = append(append(versions, deadVersions()...), badVersions()...)
	fit := 0
	for range 50000 {
		x := tableOf()
		for range source.IntN(6) {
			x.Columns = append(x.Columns, column(anyOf(source, []string{"", "a", "b", "c", "A"}), source.IntN(4)))
		}
		c := in(anyOf(source, []string{"", "a", "b", "c", "A", "k", "r"}), anyOf(source, versions))
		c.Key.Table = anyOf(source, []string{"t", "t", "t", "u"})
		if slowFits(x, c) {
			fit++
		}
		wantFits(t, x, c, slowFits(x, c))
	}
	if fit < 1000 {
		t.Errorf("%d cells fit, too few", fit)
	}
}

// P17.1 and P17.2: what fits a column is what Column tells of it.
func TestFitsAsColumnTells(t *testing.T) {
	x := tableOf(column("a", api.Int), column("b", api.Str), column("a", api.Str), column("c", api.None))
	for _, name := range []string{"a", "b", "c", "d"} {
		c, ok := schema.Column(x, name)
		for kind, versions := range goodVersions() {
			wantFits(t, x, in(name, versions[0]), ok && kind == c.Kind && kind != api.None)
		}
		wantFits(t, x, in(name, dead(1)), ok)
	}
}
