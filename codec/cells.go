package codec

import (
	"skerry/api"
)

// What stands ahead of a value, and of the local time of a deletion.
const (
	liveMark = 0
	deadMark = 1
)

// Cells: in bytes.
func Cells(l []api.Cell) []byte {
	b := addNumber(nil, uint64(len(l)))
	for _, c := range l {
		b = addVersion(addKey(b, c.Key), c.Version)
	}
	return b
}

// ReadCells: of bytes.
func ReadCells(b []byte) ([]api.Cell, api.Errno) {
	r := reader{bytes: b}
	l, ok := attempt(r.cells)
	if !ok {
		return nil, api.ErrCorrupt
	}
	return l, api.OK
}

func addKey(b []byte, k api.Key) []byte {
	b = addText(b, k.Table)
	b = addText(b, k.Part)
	b = addNumber(b, Zig(k.Row))
	return addText(b, k.Column)
}

func addVersion(b []byte, v api.Version) []byte {
	b = addNumber(b, Zig(v.Time))
	if v.Dead {
		return addNumber(append(b, deadMark), Zig(v.Local))
	}
	return addValue(append(b, liveMark), v.Value)
}

func addValue(b []byte, v api.Value) []byte {
	b = addNumber(b, uint64(v.Kind))
	b = addNumber(b, Zig(v.N))
	return addText(b, v.S)
}
