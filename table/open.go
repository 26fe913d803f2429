package table

import (
	"bytes"

	"skerry/api"
	"skerry/bloom"
	"skerry/codec"
)

// Open: of a file.
func Open(b []byte) (*Table, api.Errno) {
	var t Table
	p := parts{rest: b}
	indexSize, filterSize, ok := p.cutEnd()
	if !ok {
		goto none
	}
	if t.filter, ok = p.cutFilter(filterSize); !ok {
		goto none
	}
	// All blocks are read in any case, so the index is not needed to find them.
	if _, ok = p.cut(indexSize); !ok {
		goto none
	}
	if t.cells, ok = p.cutBlocks(); !ok {
		goto none
	}
	// Each part may be whole and yet be another than Write tells: blocks that are not full, an index of other cells.
	if told, e := Write(t.cells); e != api.OK || !bytes.Equal(told, b) {
		goto none
	}
	return &t, api.OK
none:
	return nil, api.ErrCorrupt
}

// parts is what is left of a table's bytes when parts were cut off their end.
type parts struct {
	rest []byte
}

// cut: the last bytes, so many.
func (p *parts) cut(size uint64) ([]byte, bool) {
	// Held against what is left as 64 bits: a size may be more than an int can tell.
	if size > uint64(len(p.rest)) {
		return nil, false
	}
	at := len(p.rest) - int(size)
	part := p.rest[at:]
	p.rest = p.rest[:at]
	return part, true
}

// cutFrame: the content of the frame of that size.
func (p *parts) cutFrame(size uint64) ([]byte, bool) {
	part, ok := p.cut(size)
	if !ok {
		return nil, false
	}
	content, _, e := codec.Unframe(part)
	return content, e == api.OK
}

// cutEnd: the sizes of the index and the filter.
func (p *parts) cutEnd() (indexSize, filterSize uint64, ok bool) {
	count, ok := p.cut(1)
	if !ok {
		return 0, 0, false
	}
	content, ok := p.cutFrame(uint64(count[0]))
	if !ok {
		return 0, 0, false
	}
	// How many cells there are, and the sizes of the blocks, the index and the filter.
	var told [4]uint64
	for i := range told {
		u, n := codec.Get(content)
		told[i] = u
		content = content[n:]
	}
	return told[2], told[3], true
}

func (p *parts) cutFilter(size uint64) (*bloom.Filter, bool) {
	content, ok := p.cutFrame(size)
	if !ok {
		return nil, false
	}
	f, e := bloom.Read(content)
	return f, e == api.OK
}

// cutBlocks: the cells of all blocks, which are all that is left.
func (p *parts) cutBlocks() ([]api.Cell, bool) {
	var l []api.Cell
	for len(p.rest) > 0 {
		content, size, e := codec.Unframe(p.rest)
		if e != api.OK {
			return nil, false
		}
		block, e := codec.ReadCells(content)
		if e != api.OK {
			return nil, false
		}
		l = append(l, block...)
		p.rest = p.rest[size:]
	}
	return l, true
}
