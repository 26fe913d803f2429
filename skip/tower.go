package skip

import (
	"iter"

	"skerry/api"
)

// links: one tower a level, the lowest level first.
type links [api.MaxLevel]*tower

// tower is a cell that stands in as many of the list's levels as it is high.
type tower struct {
	cell   api.Cell
	height int
	next   links
}

// has: is it there, with that key?
func (t *tower) has(k api.Key) bool { return t != nil && t.cell.Key == k }

// link puts a tower behind those that are the last before it on their levels.
func (t *tower) link(before links) {
	for level := range t.height {
		t.next[level] = before[level].next[level]
		before[level].next[level] = t
	}
}

// on: the tower and all behind it; of nil none.
func (t *tower) on() iter.Seq[*tower] {
	return func(yield func(*tower) bool) {
		for at := t; at != nil && yield(at); at = at.next[0] {
		}
	}
}
