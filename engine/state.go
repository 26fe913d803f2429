package engine

import (
	"slices"
	"sync"

	"skerry/api"
	"skerry/manifest"
	"skerry/merge"
	"skerry/skip"
	"skerry/table"
)

// state is what an engine has between two changes.
type state struct {
	manifest manifest.Manifest
	tables   []*table.Table // those of the manifest, in its order
	memory   *skip.List
	once     sync.Once
	cells    []api.Cell // of all tables and memory, from the first question on
}

// all: the cells as they are kept, which no answer may share.
func (s *state) all() []api.Cell {
	s.once.Do(func() {
		s.cells = merge.All(append(cellsOf(s.tables), s.memory.All())...)
	})
	return s.cells
}

// sizes: how many cells the tables have.
func (s *state) sizes() []int {
	var sizes []int
	for _, t := range s.tables {
		sizes = append(sizes, t.Len())
	}
	return sizes
}

// without: the state that comes next, of which the tables at these places are none; the next table's number is used up.
func (s *state) without(places []int) *state {
	next := &state{memory: s.memory}
	next.manifest.Next = s.manifest.Next + 1
	next.manifest.From = s.manifest.From
	for i, t := range s.tables {
		if !slices.Contains(places, i) {
			next.add(s.manifest.Tables[i], t)
		}
	}
	return next
}

// add: one more table, the last.
func (s *state) add(number int, t *table.Table) {
	s.manifest.Tables = append(s.manifest.Tables, number)
	s.tables = append(s.tables, t)
}

// put: a memory has the cells of these lists, too.
func put(memory *skip.List, lists ...[]api.Cell) {
	for _, l := range lists {
		for _, c := range l {
			// The log takes and tells good cells alone, so memory refuses none.
			memory.Put(c)
		}
	}
}

// cellsOf: those of each table.
func cellsOf(tables []*table.Table) [][]api.Cell {
	var lists [][]api.Cell
	for _, t := range tables {
		lists = append(lists, t.All())
	}
	return lists
}

// at: what a list has at these places.
func at[T any](l []T, places []int) []T {
	var out []T
	for _, i := range places {
		out = append(out, l[i])
	}
	return out
}
