// Package codec is layer 1: see shared/doc/01-codec.md.
package codec

// longest: no number of 64 bits has more digits to base 128.
const longest = 10

// Zig: an int without a sign.
func Zig(n int) uint64 {
	// The shift to the right copies the sign, so the least int needs no sum that would wrap.
	return uint64(n)<<1 ^ uint64(int64(n)>>63)
}

// Zag: the other way round.
func Zag(u uint64) int {
	half := int(u >> 1)
	if u%2 == 1 {
		return -half - 1
	}
	return half
}

// Put: a number behind bytes.
func Put(b []byte, u uint64) []byte {
	return addNumber(copyWithRoom(b, longest), u)
}

// Get: the number that bytes begin with.
func Get(b []byte) (uint64, int) {
	r := reader{bytes: b}
	u, ok := attempt(r.number)
	if !ok {
		return 0, 0
	}
	return u, r.at
}

// PutText: a text behind bytes.
func PutText(b []byte, s string) []byte {
	return addText(copyWithRoom(b, longest+len(s)), s)
}

// GetText: the text that bytes begin with.
func GetText(b []byte) (string, int) {
	r := reader{bytes: b}
	s, ok := attempt(r.text)
	if !ok {
		return "", 0
	}
	return s, r.at
}

// copyWithRoom: what is added to the copy never lands in the room behind the caller's list.
func copyWithRoom(b []byte, room int) []byte {
	return append(make([]byte, 0, len(b)+room), b...)
}

// addNumber writes into the room of b, which therefore must be this package's own.
func addNumber(b []byte, u uint64) []byte {
	for u >= 128 {
		b = append(b, byte(u%128)+128)
		u /= 128
	}
	return append(b, byte(u))
}

// addText writes into the room of b, as addNumber does.
func addText(b []byte, s string) []byte {
	return append(addNumber(b, uint64(len(s))), s...)
}
