package table

import (
	"slices"

	"skerry/api"
	"skerry/bloom"
	"skerry/cell"
	"skerry/codec"
	"skerry/key"
)

const (
	maxCells  = 20000 // of a table
	bitsOfKey = 10    // in the filter
)

// Write: cells as a file.
func Write(l []api.Cell) ([]byte, api.Errno) {
	if !writable(l) {
		return nil, api.ErrArg
	}
	var w writer
	w.table(l)
	if w.full {
		return nil, api.ErrFull
	}
	return w.bytes, api.OK
}

// writable: may cells be a table?
func writable(l []api.Cell) bool {
	if len(l) == 0 || len(l) > maxCells || !cell.Sorted(l) {
		return false
	}
	return !slices.ContainsFunc(l, func(c api.Cell) bool { return !cell.Good(c) })
}

// writer lays frames one behind the other.
type writer struct {
	bytes []byte
	full  bool // one of them would have had more bytes than a frame of a table may have
}

func (w *writer) table(l []api.Cell) {
	index := w.blocks(l)
	blocksSize := len(w.bytes)
	indexSize := w.frame(index)
	filterSize := w.frame(filterOf(l).Bytes())
	sum := codec.Sum(w.bytes)
	endSize := w.frame(numbers(uint64(len(l)), uint64(blocksSize), uint64(indexSize), uint64(filterSize), uint64(sum)))
	w.bytes = append(w.bytes, byte(endSize))
}

// blocks lays those of all cells, and tells their index.
func (w *writer) blocks(l []api.Cell) []byte {
	index := numbers(uint64(blocksOf(len(l))))
	for block := range slices.Chunk(l, api.BlockSize) {
		size := w.frame(codec.Cells(block))
		// Put and PutText copy what they are given, so they are not given the whole index each time.
		index = append(index, codec.PutText(nil, string(key.Bytes(block[0].Key)))...)
		index = append(index, numbers(uint64(size))...)
	}
	return index
}

// frame lays that of a content, and tells how many bytes it has with its head.
func (w *writer) frame(content []byte) int {
	f := codec.Frame(content)
	// There is none of a content that alone has more bytes.
	if len(f) == 0 || len(f) > api.MaxFrame {
		w.full = true
	}
	w.bytes = append(w.bytes, f...)
	return len(f)
}

func filterOf(l []api.Cell) *bloom.Filter {
	f := bloom.New(len(l), bitsOfKey)
	for _, c := range l {
		f.Add(key.Bytes(c.Key))
	}
	return f
}

// numbers: one behind the other, in bytes.
func numbers(list ...uint64) []byte {
	var b []byte
	for _, u := range list {
		b = codec.Put(b, u)
	}
	return b
}
