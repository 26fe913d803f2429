package purge_test

import (
	"math"
	"math/rand/v2"
	"slices"
	"testing"

	"skerry/api"
	"skerry/cell"
	"skerry/purge"
	"skerry/table"
)

func tableOf(t *testing.T, l ...api.Cell) *table.Table {
	t.Helper()
	b, e := table.Write(cell.Norm(l))
	if e != api.OK {
		t.Fatalf("Write: %v", e)
	}
	x, e := table.Open(b)
	if e != api.OK {
		t.Fatalf("Open: %v", e)
	}
	return x
}

// goodCell: one of those that may be, of few keys.
func goodCell(source *rand.Rand) api.Cell {
	k := api.Key{Table: anyOf(source, []string{"t", "u"}), Part: anyOf(source, []string{"p", "q"}), Row: source.IntN(6) - 2, Column: anyOf(source, []string{"", "c"})}
	time := source.IntN(3)
	switch {
	case source.IntN(3) > 0:
		return api.Cell{Key: k, Version: dead(time, source.IntN(12))}
	case k.Column == "":
		return api.Cell{Key: k, Version: api.Version{Time: time}}
	}
	return api.Cell{Key: k, Version: live(time, source.IntN(2))}
}

func goodCells(source *rand.Rand, least, most int) []api.Cell {
	var l []api.Cell
	for range least + source.IntN(most-least+1) {
		l = append(l, goodCell(source))
	}
	return l
}

// onlyByFilter: a deletion whose key the table has not, but of which its filter says that it may be there.
func onlyByFilter(t *testing.T, x *table.Table) api.Cell {
	t.Helper()
	for n := 1000; n < 1000000; n++ {
		c := row(n, dead(1, 1))
		if _, there := x.Get(c.Key); !there && x.May(c.Key) {
			return c
		}
	}
	t.Fatal("the filter is never wrong")
	return api.Cell{}
}

// farFrom: a table whose filter is not wrong about any of the cells' keys.
func farFrom(t *testing.T, l []api.Cell) *table.Table {
	t.Helper()
	for n := 500; n < 600; n++ {
		x := tableOf(t, row(n, live(1, 1)))
		if !slices.ContainsFunc(l, func(c api.Cell) bool { return x.May(c.Key) }) {
			return x
		}
	}
	t.Fatal("the filters are always wrong")
	return nil
}

func slowTable(l []api.Cell, others []*table.Table, memory []api.Cell, now, grace int) []api.Cell {
	var out []api.Cell
	for _, c := range cell.Norm(l) {
		stays := !slowOld(c.Version, now, grace) || slowHas([][]api.Cell{memory}, c.Key)
		for _, t := range others {
			stays = stays || t.May(c.Key)
		}
		if stays {
			out = append(out, c)
		}
	}
	return out
}

// P11.2: no cells, no others, no memory; tables that are nil or that no call made count for nothing.
func TestTableOfNone(t *testing.T) {
	l := list(row(1, dead(1, 1)), row(2, live(1, 1)), row(3, dead(1, 50)))
	for _, others := range [][]*table.Table{nil, {}, {nil}, {{}}, {nil, {}, nil, {}}} {
		for _, memory := range [][]api.Cell{nil, {}, {row(9, live(1, 1))}} {
			wantCells(t, "Table of none", purge.Table(nil, others, memory, 100, 0), nil)
			wantCells(t, "Table of none", purge.Table([]api.Cell{}, others, memory, 100, 0), nil)
			wantCells(t, "Table with no others", purge.Table(l, others, memory, 59, 10), l[1:])
			wantCells(t, "Table with no others", purge.Table(l, others, memory, 60, 10), l[1:2])
			wantCells(t, "Table with no others", purge.Table(l, others, memory, 10, 10), l)
		}
	}
}

// P11.2: the example of the chapter, with the key in a table, and in memory.
func TestTableExample(t *testing.T) {
	l := list(row(1, dead(1, 5)))
	x := tableOf(t, l...)
	wantCells(t, "Table at 15", purge.Table(l, nil, nil, 15, 10), nil)
	wantCells(t, "Table at 14", purge.Table(l, nil, nil, 14, 10), l)
	wantCells(t, "Table with the key in a table", purge.Table(l, []*table.Table{x}, nil, 15, 10), l)
	wantCells(t, "Table with the key in memory", purge.Table(l, nil, l, 15, 10), l)
	wantCells(t, "Table with the key in both", purge.Table(l, []*table.Table{x}, l, 15, 10), l)
}

// P11.2 and P11.3: a key that memory alone has, whatever the version, wherever it stands.
func TestKeyInMemory(t *testing.T) {
	l := list(row(1, dead(5, 5)), row(2, dead(5, 5)), row(3, dead(5, 5)))
	none := []*table.Table{nil, {}, farFrom(t, l)}
	for _, v := range []api.Version{{}, live(1, 1), live(9, 1), dead(1, 1), dead(5, 5), {Local: 3}} {
		for _, memory := range [][]api.Cell{
			{row(2, v)},
			{row(9, v), row(2, v), row(0, v)},
			{row(2, v), row(2, live(3, 3)), row(7, v)},
			{row(8, v), row(7, v), row(2, v)},
		} {
			wantCells(t, "Table with the key in memory", purge.Table(l, nil, memory, 100, 10), l[1:2])
			wantCells(t, "Table with the key in memory", purge.Table(l, none, memory, 100, 10), l[1:2])
		}
	}
}

// P11.2 and P11.3: a key that a table has, be it the first, the last, or all of them, among such as count for nothing.
func TestKeyInTable(t *testing.T) {
	mark := row(2, dead(5, 5))
	l := list(row(1, dead(5, 5)), mark, row(3, dead(5, 5)))
	far := farFrom(t, l)
	for _, v := range []api.Version{live(1, 1), live(9, 1), dead(1, 1), dead(5, 5), dead(9, 9)} {
		there := tableOf(t, row(2, v))
		for _, others := range [][]*table.Table{
			{there},
			{there, far, nil},
			{nil, {}, far, there},
			{there, there, there},
			{far, there, {}},
		} {
			wantCells(t, "Table with the key in a table", purge.Table(l, others, nil, 100, 10), list(mark))
			wantCells(t, "Table with another in memory", purge.Table(l, others, list(row(3, live(1, 1))), 100, 10), l[1:])
		}
	}
}

// P11.2: what only a filter lets stand, stays; Cells with the same cells lets it go.
func TestOnlyByFilter(t *testing.T) {
	var kept []api.Cell
	for n := range 100 {
		kept = append(kept, row(n, live(1, n)))
	}
	x := tableOf(t, kept...)
	c := onlyByFilter(t, x)
	l := list(row(50, dead(2, 2)), c)
	for _, others := range [][]*table.Table{{x}, {nil, x}, {x, {}}} {
		wantCells(t, "Table", purge.Table(l, others, nil, 100, 10), l)
	}
	wantCells(t, "Cells", purge.Cells(l, [][]api.Cell{x.All()}, 100, 10), l[:1])
	wantCells(t, "Table with the cells in memory", purge.Table(l, nil, kept, 100, 10), l[:1])
}

// P11.2: cells that are not sorted, keys that come twice, cells that may not be: as with Cells.
func TestTableNormFirst(t *testing.T) {
	worded := api.Version{Time: 3, Dead: true, Local: 4, Value: api.Value{Kind: 9, N: 1, S: "x"}}
	l := list(row(3, dead(1, 1)), row(1, live(2, 1)), row(2, dead(1, 1)), row(1, dead(1, 1)), row(2, dead(1, 99)), row(3, dead(2, 2)), api.Cell{Version: worded})
	want := list(row(1, live(2, 1)), row(2, dead(1, 99)))
	wantCells(t, "Table", purge.Table(l, nil, nil, 100, 10), want)
	wantCells(t, "Table with a zero key in memory", purge.Table(l, nil, list(api.Cell{}), 100, 10), append(list(api.Cell{Version: worded}), want...))
	wantCells(t, "Table with one of its keys in a table", purge.Table(l, []*table.Table{tableOf(t, row(3, live(1, 1)))}, nil, 100, 10), append(want, row(3, dead(2, 2))))
}

// P11.2: at the ends of the numbers, and with grace below 0.
func TestTableAtTheEnds(t *testing.T) {
	first, last := row(1, dead(1, math.MinInt)), row(2, dead(1, math.MaxInt))
	l := list(first, last)
	wantCells(t, "the greatest grace", purge.Table(l, nil, nil, math.MaxInt, math.MaxInt), list(last))
	wantCells(t, "the least grace", purge.Table(l, nil, nil, math.MaxInt, math.MinInt), nil)
	wantCells(t, "the least now", purge.Table(l, nil, nil, math.MinInt, math.MinInt), list(last))
	wantCells(t, "the least now", purge.Table(l, nil, nil, math.MinInt, 1), l)
}

// P11.2: against the slow form; P11.3: Table forgets no more than Cells with the tables' and memory's cells, and no live cell, no deletion that is not Old.
func TestTableAgainstSlow(t *testing.T) {
	source := rand.New(rand.NewPCG(14, 0))
	for range 1500 {
		var others []*table.Table
		var lists [][]api.Cell
		for range source.IntN(4) {
			x := tableOf(t, goodCells(source, 1, 8)...)
			others, lists = append(others, x), append(lists, x.All())
			if source.IntN(4) == 0 {
				others = append(others, anyOf(source, []*table.Table{nil, {}}))
			}
		}
		l, memory := goodCells(source, 0, 12), goodCells(source, 0, 6)
		now, grace := source.IntN(15), source.IntN(12)-1
		got := purge.Table(l, others, memory, now, grace)
		wantCells(t, "Table", got, slowTable(l, others, memory, now, grace))
		for _, c := range purge.Cells(l, append(lists, memory), now, grace) {
			if !slices.Contains(got, c) {
				t.Fatalf("Table forgets %v, Cells does not", c)
			}
		}
		for _, c := range cell.Norm(l) {
			if !slices.Contains(got, c) && !purge.Old(c.Version, now, grace) {
				t.Fatalf("Table forgets %v at %d with grace %d", c, now, grace)
			}
		}
	}
}
