package key

import "skerry/api"

const (
	zero    = 0   // begins the end of a text, and a 0 within one
	ended   = 0   // behind a zero: the text ends
	goesOn  = 255 // behind a zero: it was one of the text's bytes
	signBit = 1 << 63
	wordLen = 8 // bytes of a row
	endLen  = 2 // bytes of a text's end
)

// Bytes: in bytes that stand in order.
func Bytes(k api.Key) []byte {
	// Each 0 takes one byte more than this room has, and append then finds more.
	room := len(k.Table) + len(k.Part) + len(k.Column) + 3*endLen + wordLen
	b := addText(make([]byte, 0, room), k.Table)
	b = addText(b, k.Part)
	b = addRow(b, k.Row)
	return addText(b, k.Column)
}

// Read: of these.
func Read(b []byte) (api.Key, bool) {
	r := keyReader{reader{rest: b}}
	var k api.Key
	k.Table = r.text()
	k.Part = r.text()
	k.Row = r.row()
	k.Column = r.text()
	if !r.done() {
		return api.Key{}, false
	}
	return k, true
}

// addText: a 0 of the text stands above the text's end and below each other byte, so that what stops first comes first.
func addText(b []byte, s string) []byte {
	for i := range len(s) {
		b = append(b, s[i])
		if s[i] == zero {
			b = append(b, goesOn)
		}
	}
	return append(b, zero, ended)
}

// addRow: with its sign turned a row below 0 stands ahead of the others.
func addRow(b []byte, row int) []byte {
	u := uint64(row) ^ signBit
	for i := range wordLen {
		b = append(b, byte(u>>(8*(wordLen-1-i))))
	}
	return b
}

// reader goes through bytes from their beginning on.
type reader struct {
	rest []byte
	bad  bool
}

// next: behind the last byte it tells noughts, which end any text, and remembers that they were not there.
func (r *reader) next() byte {
	if len(r.rest) == 0 {
		r.bad = true
		return zero
	}
	c := r.rest[0]
	r.rest = r.rest[1:]
	return c
}

// done: were all bytes there, and are there no others?
func (r *reader) done() bool {
	return !r.bad && len(r.rest) == 0
}

// keyReader reads what a key's bytes are made of.
type keyReader struct {
	reader
}

func (r *keyReader) text() string {
	var s []byte
	for {
		c := r.next()
		if c == zero && !r.more() {
			return string(s)
		}
		s = append(s, c)
	}
}

// more: a zero was read; was it one of the text's bytes?
func (r *keyReader) more() bool {
	switch r.next() {
	case goesOn:
		return true
	case ended:
		return false
	}
	r.bad = true
	return false
}

func (r *keyReader) row() int {
	u := uint64(0)
	for range wordLen {
		u = u<<8 | uint64(r.next())
	}
	return int(u ^ signBit)
}
