package disk

import (
	"slices"
)

// file: bytes only ever come to its end, so all that is not written lies behind all that is,
// and its dirty sectors are its last ones, beginning with the one in which the written bytes end.
type file struct {
	bytes   []byte
	written int
	places  []int // of its dirty sectors in the disk's line: rising, as they became dirty one by one
}

// lacks: how many sectors more it needs for n bytes more.
func (f *file) lacks(n int) int {
	return Sectors(len(f.bytes)+n) - Sectors(len(f.bytes))
}

// lay puts bytes at the end; what becomes dirty gets the places from next on. It answers the place behind those.
func (f *file) lay(b []byte, next int) int {
	if len(b) == 0 {
		return next
	}
	f.bytes = append(f.bytes, b...)
	dirty := Sectors(len(f.bytes)) - f.written/sectorSize
	for range dirty - len(f.places) {
		f.places = append(f.places, next)
		next++
	}
	return next
}

// lose: of the dirty sectors those with places ahead of end are written, the others' bytes are gone.
func (f *file) lose(end int) {
	kept, _ := slices.BinarySearch(f.places, end)
	if kept == 0 {
		// The sector in which the written bytes end stays as full as it was then.
		f.endAt(f.written)
		return
	}
	f.endAt(min(len(f.bytes), (f.written/sectorSize+kept)*sectorSize))
}

// endAt: so many bytes are there, and all of them are written.
func (f *file) endAt(n int) {
	f.bytes = f.bytes[:n]
	f.written = n
	f.places = nil
}
