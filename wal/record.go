package wal

import (
	"iter"
	"slices"

	"skerry/api"
	"skerry/cell"
	"skerry/codec"
)

// Scan: the records that bytes begin with, and how many bytes they are.
func Scan(b []byte) ([][]api.Cell, int) {
	var told [][]api.Cell
	size := 0
	for cells, end := range records(b) {
		told = append(told, cells)
		size = end
	}
	return told, size
}

// Record: cells as one.
func Record(l []api.Cell) ([]byte, api.Errno) {
	if !recordable(l) {
		return nil, api.ErrArg
	}
	return framed(codec.Cells(l))
}

// framed stands apart from Record since so few good cells never have more bytes than a frame takes.
func framed(content []byte) ([]byte, api.Errno) {
	b := codec.Frame(content)
	if len(b) == 0 {
		return nil, api.ErrFull
	}
	return b, api.OK
}

// records tells those that bytes begin with, each with the place behind its end.
func records(b []byte) iter.Seq2[[]api.Cell, int] {
	return func(yield func([]api.Cell, int) bool) {
		end := 0
		for {
			cells, size := first(b[end:])
			end += size
			if size == 0 || !yield(cells, end) {
				return
			}
		}
	}
}

// first: the record that bytes begin with, and how many bytes it has; 0, if there is none.
func first(b []byte) ([]api.Cell, int) {
	content, size, e := codec.Unframe(b)
	if e != api.OK {
		return nil, 0
	}
	cells, e := codec.ReadCells(content)
	if e != api.OK || !recordable(cells) {
		return nil, 0
	}
	return cells, size
}

// recordable: may cells be a record?
func recordable(l []api.Cell) bool {
	if len(l) == 0 || len(l) > api.MaxCells {
		return false
	}
	return !slices.ContainsFunc(l, func(c api.Cell) bool { return !cell.Good(c) })
}
