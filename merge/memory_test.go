package merge_test

import (
	"slices"
	"testing"

	"skerry/api"
	"skerry/merge"
)

// spoil changes a list and the room behind its end.
func spoil(l []api.Cell) {
	l = l[:cap(l)]
	for i := range l {
		l[i] = api.Cell{Key: api.Key{Table: "spoilt"}}
	}
}

// withRoom: a list that has others behind its end, in the room of its own memory.
func withRoom(l []api.Cell) (part, whole []api.Cell) {
	whole = slices.Concat(l, list(row(1, live(99, 1)), api.Cell{}, row(0, live(99, 1))))
	return whole[:len(l)], whole
}

// pairs: lists that are sorted, not sorted, and empty.
func pairs() [][2][]api.Cell {
	sorted := list(row(1, live(1, 1)), row(2, live(5, 1)), row(3, live(1, 1)))
	other := list(row(1, live(2, 1)), row(2, live(2, 1)), row(4, live(1, 1)))
	mixed := list(row(4, live(1, 1)), row(1, live(3, 1)), row(4, live(2, 1)), row(2, dead(2, 2)))
	return [][2][]api.Cell{{sorted, other}, {other, sorted}, {sorted, mixed}, {mixed, sorted}, {mixed, mixed}, {sorted, sorted}, {nil, sorted}, {sorted, nil}, {mixed, nil}, {nil, mixed}, {nil, nil}}
}

// calls: all that answer a list, of two lists.
func calls() []func(a, b []api.Cell) []api.Cell {
	return []func(a, b []api.Cell) []api.Cell{
		func(a, b []api.Cell) []api.Cell { return merge.All(a, b) },
		func(a, b []api.Cell) []api.Cell { return merge.All(a) },
		func(a, b []api.Cell) []api.Cell { return merge.All([][]api.Cell{nil, b, {}}...) },
		merge.Sub,
		func(a, b []api.Cell) []api.Cell { return merge.Part(a, "t", "p") },
		func(a, b []api.Cell) []api.Cell { return merge.Part(b, "t", "p") },
		func(a, b []api.Cell) []api.Cell {
			merge.Over(a, b)
			return nil
		},
		func(a, b []api.Cell) []api.Cell {
			var out []api.Cell
			for _, x := range tell(merge.Each(a, b)) {
				out = append(out, x.cell)
			}
			return out
		},
	}
}

// R3: neither an argument nor the room behind it is changed, looked at or kept, and an answer is new.
func TestMemory(t *testing.T) {
	for _, p := range pairs() {
		for i, call := range calls() {
			a, wholeA := withRoom(p[0])
			b, wholeB := withRoom(p[1])
			beforeA, beforeB := slices.Clone(wholeA), slices.Clone(wholeB)
			want := slices.Clone(call(slices.Clone(p[0]), slices.Clone(p[1])))
			first, second := call(a, b), call(a, b)
			wantCells(t, "an answer", first, want)
			spoil(first)
			if !slices.Equal(wholeA, beforeA) || !slices.Equal(wholeB, beforeB) {
				t.Fatalf("call %d changed an argument, or shares it", i)
			}
			wantCells(t, "another answer", second, want)
			spoil(wholeA)
			spoil(wholeB)
			wantCells(t, "an answer behind a change of the arguments", second, want)
		}
	}
}

// R3: what Each tells is as it was when it was asked for, whatever is done with the lists behind it.
func TestEachKeepsNothing(t *testing.T) {
	for _, p := range pairs() {
		a, wholeA := withRoom(p[0])
		b, wholeB := withRoom(p[1])
		lists := [][]api.Cell{a, nil, b}
		want := slowEach(lists)
		each := merge.Each(lists...)
		spoil(wholeA)
		if got := tell(each); !slices.Equal(got, want) {
			t.Fatalf("behind a change of a list: %v, want %v", got, want)
		}
		lists[0], lists[1], lists[2] = nil, list(row(50, live(1, 1))), nil
		for range each {
			spoil(wholeB)
		}
		if got := tell(each); !slices.Equal(got, want) {
			t.Fatalf("behind a change of the lists: %v, want %v", got, want)
		}
	}
}

// R3: the list of the lists is not changed either, nor the room behind it.
func TestListsStay(t *testing.T) {
	whole := [][]api.Cell{{row(2, live(1, 1)), row(1, live(1, 1))}, nil, {row(1, live(2, 1))}, {row(7, live(1, 1))}}
	lists := whole[:3]
	wantCells(t, "All", merge.All(lists...), list(row(1, live(2, 1)), row(2, live(1, 1))))
	tell(merge.Each(lists...))
	wantCells(t, "the first list", whole[0], list(row(2, live(1, 1)), row(1, live(1, 1))))
	wantCells(t, "the third list", whole[2], list(row(1, live(2, 1))))
	wantCells(t, "the list behind the end", whole[3], list(row(7, live(1, 1))))
	if whole[1] != nil {
		t.Error("the second list is another")
	}
}

// P10.1: many lists, each long, by a heap: in time that a search through all lists for each cell would not have.
func TestManyLists(t *testing.T) {
	const many, long = 2000, 100
	lists := make([][]api.Cell, many)
	for i := range lists {
		for n := range long {
			lists[i] = append(lists[i], row(n*many+(i*7919)%many, live(i, n)))
		}
	}
	got := merge.All(lists...)
	if len(got) != many*long {
		t.Fatalf("%d cells, want %d", len(got), many*long)
	}
	for i, c := range got {
		if c.Key.Row != i {
			t.Fatalf("cell %d is of row %d", i, c.Key.Row)
		}
	}
}
