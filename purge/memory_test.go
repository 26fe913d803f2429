package purge_test

import (
	"slices"
	"testing"

	"skerry/api"
	"skerry/purge"
	"skerry/table"
)

// spoil changes a list and the room behind its end.
func spoil(l []api.Cell) {
	l = l[:cap(l)]
	for i := range l {
		l[i] = api.Cell{Key: api.Key{Table: "spoilt"}}
	}
}

// withRoom: a list that has others behind its end, in the room of its own memory, of keys that would make deletions stay.
func withRoom(l []api.Cell) (part, whole []api.Cell) {
	whole = slices.Concat(l, list(row(1, live(99, 1)), api.Cell{}, row(3, live(99, 1))))
	return whole[:len(l)], whole
}

// arguments: cells that are sorted, that are not, of which all go, of which none goes.
func arguments() [][]api.Cell {
	return [][]api.Cell{
		nil,
		list(row(1, dead(1, 1)), row(2, live(1, 1)), row(3, dead(1, 1)), row(4, dead(1, 1))),
		list(row(4, dead(1, 1)), row(1, dead(1, 1)), row(2, live(1, 1)), row(1, dead(2, 2))),
		list(row(1, dead(1, 1)), row(3, dead(1, 1))),
		list(row(1, live(1, 1)), row(3, dead(1, 99))),
	}
}

// calls: both that answer a list, of cells and other cells.
func calls(t *testing.T) []func(l, other []api.Cell) []api.Cell {
	x := tableOf(t, row(4, live(1, 1)))
	return []func(l, other []api.Cell) []api.Cell{
		func(l, other []api.Cell) []api.Cell {
			return purge.Cells(l, [][]api.Cell{nil, other}, 100, 10)
		},
		func(l, other []api.Cell) []api.Cell {
			return purge.Table(l, []*table.Table{nil, x, {}}, other, 100, 10)
		},
	}
}

// R3: neither an argument nor the room behind it is changed, looked at or kept, and an answer is new.
func TestMemory(t *testing.T) {
	for _, l := range arguments() {
		for _, other := range arguments() {
			for i, call := range calls(t) {
				a, wholeA := withRoom(l)
				b, wholeB := withRoom(other)
				beforeA, beforeB := slices.Clone(wholeA), slices.Clone(wholeB)
				want := slices.Clone(call(slices.Clone(l), slices.Clone(other)))
				first, second := call(a, b), call(a, b)
				wantCells(t, "an answer", first, want)
				spoil(first)
				if !slices.Equal(wholeA, beforeA) || !slices.Equal(wholeB, beforeB) {
					t.Fatalf("call %d changed an argument, or shares it", i)
				}
				wantCells(t, "another answer", second, want)
				spoil(wholeA)
				spoil(wholeB)
				wantCells(t, "an answer behind a change of the arguments", second, want)
			}
		}
	}
}

// R3: the list of the others is not changed either, nor looked at behind its end.
func TestOthersStay(t *testing.T) {
	l := list(row(1, dead(1, 1)), row(2, dead(1, 1)))
	whole := [][]api.Cell{{row(5, live(1, 1)), row(2, live(1, 1))}, nil, {row(1, live(1, 1))}}
	wantCells(t, "Cells", purge.Cells(l, whole[:2], 100, 10), l[1:])
	wantCells(t, "the first list", whole[0], list(row(5, live(1, 1)), row(2, live(1, 1))))
	wantCells(t, "the list behind the end", whole[2], list(row(1, live(1, 1))))
	if whole[1] != nil {
		t.Error("the second list is another")
	}

	first, behind := tableOf(t, row(2, live(1, 1))), tableOf(t, row(1, live(1, 1)))
	tables := []*table.Table{first, nil, behind}
	wantCells(t, "Table", purge.Table(l, tables[:2], nil, 100, 10), l[1:])
	if !slices.Equal(tables, []*table.Table{first, nil, behind}) {
		t.Error("the tables are others")
	}
	wantCells(t, "the first table", first.All(), list(row(2, live(1, 1))))
}
