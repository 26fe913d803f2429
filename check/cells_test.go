package check_test

import (
	"math"
	"reflect"
	"slices"
	"testing"

	"skerry/api"
	"skerry/cell"
	"skerry/check"
	"skerry/schema"
)

func live(column string, time int, v api.Value) api.Cell {
	return api.Cell{Key: api.Key{Table: "t", Part: "x", Row: 5, Column: column}, Version: api.Version{Time: time, Value: v}}
}

func dead(column string, time, local int) api.Cell {
	return api.Cell{Key: api.Key{Table: "t", Part: "x", Row: 5, Column: column}, Version: api.Version{Time: time, Dead: true, Local: local}}
}

// wantCells: the cells of a plan, at time 100 and of local time 200.
func wantCells(t *testing.T, p check.Plan, want ...api.Cell) {
	t.Helper()
	if got := check.Cells(p, 100, 200); !slices.Equal(got, want) {
		t.Errorf("Cells(%+v): %+v, want %+v", p, got, want)
	}
}

// wantTextCells: the cells of a text's plan.
func wantTextCells(t *testing.T, s string, want ...api.Cell) {
	t.Helper()
	p, e := check.Check(parsed(t, s), someTables(), api.One)
	if e != api.OK {
		t.Fatalf("Check(%s): %v", s, e)
	}
	wantCells(t, p, want...)
}

// P20.2: the cells of each kind, timed and not, by their keys (the table's columns stand in another order).
func TestCells(t *testing.T) {
	wantTextCells(t, "CREATE TABLE v (k TEXT, r INT, a TEXT, PRIMARY KEY (k, r))")
	wantTextCells(t, "SELECT * FROM t WHERE k = 'x' AND r = 5")
	wantTextCells(t, "INSERT INTO t (k, r) VALUES ('x', 5)", live("", 100, api.Value{}))
	wantTextCells(t, "INSERT INTO t (k, r) VALUES ('x', 5) USING TIMESTAMP 7", live("", 7, api.Value{}))
	wantTextCells(t, "INSERT INTO t (k, r) VALUES ('x', 5) USING TIMESTAMP 0", live("", 0, api.Value{}))
	wantTextCells(t, "INSERT INTO t (c, k, b, r, a) VALUES (1, 'x', 0, 5, '')",
		live("", 100, api.Value{}), live("a", 100, text("")), live("b", 100, number(0)), live("c", 100, number(1)))
	wantTextCells(t, "INSERT INTO t (c, k, r, a) VALUES (1, 'x', 5, 'y') USING TIMESTAMP -7", live("", -7, api.Value{}), live("a", -7, text("y")), live("c", -7, number(1)))
	wantTextCells(t, "UPDATE t SET b = 2 WHERE k = 'x' AND r = 5", live("b", 100, number(2)))
	wantTextCells(t, "UPDATE t USING TIMESTAMP 0 SET c = 1, b = 2, a = 'y' WHERE k = 'x' AND r = 5", live("a", 0, text("y")), live("b", 0, number(2)), live("c", 0, number(1)))
	wantTextCells(t, "DELETE FROM t WHERE k = 'x' AND r = 5", dead("", 100, 200), dead("a", 100, 200), dead("b", 100, 200), dead("c", 100, 200))
	wantTextCells(t, "DELETE FROM t USING TIMESTAMP 9 WHERE k = 'x' AND r = 5", dead("", 9, 200), dead("a", 9, 200), dead("b", 9, 200), dead("c", 9, 200))
	wantTextCells(t, "DELETE b FROM t WHERE k = 'x' AND r = 5", dead("b", 100, 200))
	wantTextCells(t, "DELETE c, b, c FROM t USING TIMESTAMP 0 WHERE k = 'x' AND r = 5", dead("b", 0, 200), dead("c", 0, 200))
	wantTextCells(t, "DELETE c, b, a FROM t WHERE k = 'x' AND r = 5", dead("a", 100, 200), dead("b", 100, 200), dead("c", 100, 200))
}

// P20.2: times at their ends; Local is in deletions alone.
func TestCellsOfEnds(t *testing.T) {
	ends := []int{0, 1, -1, math.MinInt, math.MaxInt}
	for _, time := range ends {
		for _, local := range ends {
			for _, own := range ends {
				p := check.Plan{Table: someTable(), Part: "x", Row: 5, Items: []api.Item{set("a", text("y"))}, Columns: []string{"a"}, Time: own}
				for _, p.Timed = range []bool{false, true} {
					at := time
					if p.Timed {
						at = own
					}
					for kind, want := range map[int][]api.Cell{
						api.DoInsert: {live("", at, api.Value{}), live("a", at, text("y"))},
						api.DoUpdate: {live("a", at, text("y"))},
						api.DoDelete: {dead("a", at, local)},
						api.DoSelect: nil,
						api.DoCreate: nil,
					} {
						p.Kind = kind
						if got := check.Cells(p, time, local); !slices.Equal(got, want) {
							t.Errorf("Cells(%+v, %d, %d): %+v, want %+v", p, time, local, got, want)
						}
					}
				}
			}
		}
	}
}

// P20.2 and R7: what a plan's kind does not name is not looked at; of other kinds there are none.
func TestCellsOfOtherFields(t *testing.T) {
	p := check.Plan{Table: someTable(), Part: "x", Row: 5, Items: []api.Item{set("c", number(1)), set("a", text("y"))}, Columns: []string{"c", "b"}, Whole: true, Low: 1, High: 9, Limit: 3, Time: 77, Level: 9}
	for kind, want := range map[int][]api.Cell{
		api.DoCreate: nil,
		api.DoInsert: {live("", 100, api.Value{}), live("a", 100, text("y")), live("c", 100, number(1))},
		api.DoUpdate: {live("a", 100, text("y")), live("c", 100, number(1))},
		api.DoDelete: {dead("", 100, 200), dead("b", 100, 200), dead("c", 100, 200)},
		api.DoSelect: nil,
		0:            nil, -1: nil, 6: nil, math.MinInt: nil, math.MaxInt: nil,
	} {
		p.Kind = kind
		wantCells(t, p, want...)
	}
	for kind := range 7 {
		p := check.Plan{Kind: kind}
		if kind == api.DoInsert {
			wantCells(t, p, api.Cell{Version: api.Version{Time: 100}})
		} else {
			wantCells(t, p)
		}
	}
	wantCells(t, check.Plan{Kind: api.DoDelete, Whole: true}, api.Cell{Version: api.Version{Time: 100, Dead: true, Local: 200}})
}

// P20.3: a plan that no call made has each key once, too, the greatest version of it.
func TestCellsOfTwice(t *testing.T) {
	p := check.Plan{Kind: api.DoUpdate, Table: someTable(), Part: "x", Row: 5, Items: []api.Item{set("c", number(3)), set("a", text("y")), set("c", number(4)), set("c", number(2))}}
	wantCells(t, p, live("a", 100, text("y")), live("c", 100, number(4)))
	p.Kind, p.Columns = api.DoDelete, []string{"c", "a", "c", ""}
	wantCells(t, p, dead("", 100, 200), dead("a", 100, 200), dead("c", 100, 200))
}

// wantFits: the cells of a plan that Check told fit its table, stand in its one row, and by their keys, each once.
func wantFits(t *testing.T, p check.Plan, time, local int) {
	t.Helper()
	l := check.Cells(p, time, local)
	if !cell.Sorted(l) {
		t.Errorf("%+v: not by keys, each once: %+v", p, l)
	}
	if writes := p.Kind != api.DoCreate && p.Kind != api.DoSelect; writes != (len(l) > 0) {
		t.Errorf("%+v: %d cells", p, len(l))
	}
	for _, c := range l {
		if !schema.Fits(p.Table, c) {
			t.Errorf("%+v: a cell does not fit: %+v", p, c)
		}
		if c.Key.Part != p.Part || c.Key.Row != p.Row || c.Key.Table != p.Table.Name {
			t.Errorf("%+v: a cell of another row: %+v", p, c)
		}
	}
}

// P20.3: plans of all kinds, over tables of any columns.
func TestCellsFit(t *testing.T) {
	source := newSource(1)
	written := map[int]int{}
	for range 6000 {
		tables := anyTables(source)
		q := fitting(source, anyOf(source, tables))
		p, e := check.Check(q, tables, 1+source.IntN(3))
		if e != api.OK {
			t.Fatalf("Check(%+v, %+v): %v", q, tables, e)
		}
		wantFits(t, p, anyNumber(source), anyNumber(source))
		written[q.Kind]++
	}
	for kind := api.DoInsert; kind <= api.DoSelect; kind++ {
		if written[kind] < 1000 {
			t.Errorf("kind %d: %d statements", kind, written[kind])
		}
	}
}

// P20.2: Cells changes nothing of the plan, and answers new memory.
func TestCellsAreNew(t *testing.T) {
	p, _ := check.Check(parsed(t, "INSERT INTO t (c, k, b, r, a) VALUES (1, 'x', 2, 5, 'y')"), someTables(), api.One)
	q, _ := check.Check(parsed(t, "DELETE FROM t WHERE k = 'x' AND r = 5"), someTables(), api.One)
	for _, p := range []check.Plan{p, q} {
		p.Items = append(p.Items, set("behind", number(1)))[:len(p.Items)]
		p.Columns = append(p.Columns, "behind", "more")[:len(p.Columns)]
		was := copied(p)
		first, second := check.Cells(p, 1, 2), check.Cells(p, 1, 2)
		want := slices.Clone(first)
		first = first[:cap(first)]
		for i := range first {
			if i >= len(want) && first[i] != (api.Cell{}) {
				t.Errorf("something stands behind the end: %+v", first[i])
			}
			first[i] = dead("spoilt", 7, 7)
		}
		if !slices.Equal(second, want) || !slices.Equal(check.Cells(p, 1, 2), want) {
			t.Errorf("what was done to an answer is seen: %+v %+v", second, want)
		}
		if !reflect.DeepEqual(copied(p), was) {
			t.Errorf("the plan was changed: %+v, and %+v at first", copied(p), was)
		}
	}
}

// copied: a plan with lists of its own, and what stands behind their ends as a part of them.
func copied(p check.Plan) check.Plan {
	p.Table.Columns = slices.Clone(p.Table.Columns[:cap(p.Table.Columns)])
	p.Items = slices.Clone(p.Items[:cap(p.Items)])
	p.Columns = slices.Clone(p.Columns[:cap(p.Columns)])
	return p
}
