package merge

import (
	"cmp"
	"iter"

	"skerry/api"
	"skerry/key"
)

// head is what is left of a list, at least one cell; place says which of the lists it is.
type head struct {
	rest  []api.Cell
	place int
}

// heads are a heap: none of those at 2*i+1 and 2*i+2 comes ahead of the one at i. So the first one has the cell that comes next.
type heads []head

// byKeys tells all cells of sorted lists by their keys, and those of one key from the first list on.
func byKeys(lists [][]api.Cell) iter.Seq[api.Cell] {
	return func(yield func(api.Cell) bool) {
		h := newHeads(lists)
		for len(h) > 0 {
			if !yield(h[0].rest[0]) {
				return
			}
			h = h.next()
		}
	}
}

func newHeads(lists [][]api.Cell) heads {
	var h heads
	for i, l := range lists {
		if len(l) > 0 {
			h = append(h, head{rest: l, place: i})
		}
	}
	// Those in the second half have nothing below them.
	for i := len(h)/2 - 1; i >= 0; i-- {
		h.sink(i)
	}
	return h
}

// next: without the first cell; a list that has no more goes.
func (h heads) next() heads {
	h[0].rest = h[0].rest[1:]
	if len(h[0].rest) == 0 {
		last := len(h) - 1
		h[0] = h[last]
		h = h[:last]
	}
	h.sink(0)
	return h
}

// sink puts the one at i below those that come ahead of it.
func (h heads) sink(i int) {
	for {
		first := i
		for below := 2*i + 1; below <= 2*i+2 && below < len(h); below++ {
			if h[below].cmp(h[first]) < 0 {
				first = below
			}
		}
		if first == i {
			return
		}
		h[i], h[first] = h[first], h[i]
		i = first
	}
}

// cmp: of one key the earlier list is ahead, so that versions that are alike are joined to its own.
func (a head) cmp(b head) int {
	return cmp.Or(key.Cmp(a.rest[0].Key, b.rest[0].Key), cmp.Compare(a.place, b.place))
}
