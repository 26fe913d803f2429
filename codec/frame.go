package codec

import (
	"skerry/api"
)

// A frame begins with two words: its count and its sum.
const (
	wordSize = 4
	headSize = 2 * wordSize
)

// fourSteps has, for each four lowest bits, what the polynomial makes of them in four steps.
var fourSteps = [16]uint32{
	0x00000000, 0x1db71064, 0x3b6e20c8, 0x26d930ac,
	0x76dc4190, 0x6b6b51f4, 0x4db26158, 0x5005713c,
	0xedb88320, 0xf00f9344, 0xd6d6a3e8, 0xcb61b38c,
	0x9b64c2b0, 0x86d3d2d4, 0xa00ae278, 0xbdbdf21c,
}

// Sum: CRC-32.
func Sum(b []byte) uint32 {
	return ^sumOn(^uint32(0), b)
}

// Frame: bytes with their count and sum ahead.
func Frame(b []byte) []byte {
	if len(b) > api.MaxFrame {
		return nil
	}
	f := make([]byte, headSize+len(b))
	setWord(f, uint32(len(b)))
	setWord(f[wordSize:], frameSum(f, b))
	copy(f[headSize:], b)
	return f
}

// Unframe: the content of the frame that bytes begin with.
func Unframe(b []byte) ([]byte, int, api.Errno) {
	if len(b) < headSize {
		return nil, 0, api.ErrAgain
	}
	count := word(b)
	if count > api.MaxFrame {
		return nil, 0, api.ErrRange
	}
	size := headSize + int(count)
	if len(b) < size {
		return nil, 0, api.ErrAgain
	}
	content := b[headSize:size]
	if word(b[wordSize:]) != frameSum(b, content) {
		return nil, 0, api.ErrCorrupt
	}
	return copyWithRoom(content, 0), size, api.OK
}

// frameSum covers the count, too, so that a wrong one is seen.
func frameSum(head, content []byte) uint32 {
	return ^sumOn(sumOn(^uint32(0), head[:wordSize]), content)
}

// sumOn goes on with a sum that is not turned yet, so that parts that lie apart are summed as one.
func sumOn(sum uint32, b []byte) uint32 {
	for _, x := range b {
		sum ^= uint32(x)
		sum = sum>>4 ^ fourSteps[sum%16]
		sum = sum>>4 ^ fourSteps[sum%16]
	}
	return sum
}

func setWord(b []byte, w uint32) {
	for i := range wordSize {
		b[i] = byte(w >> (24 - 8*i))
	}
}

func word(b []byte) uint32 {
	var w uint32
	for i := range wordSize {
		w = w<<8 | uint32(b[i])
	}
	return w
}
