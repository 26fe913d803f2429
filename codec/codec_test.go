package codec_test

import (
	"bytes"
	"encoding/binary"
	"math"
	"math/bits"
	"strings"
	"testing"

	"skerry/codec"
)

// source tells the same numbers each time (SplitMix64), so that a test that failed fails again.
type source struct {
	state uint64
}

func newSource(seed uint64) *source {
	return &source{state: seed}
}

func (s *source) next() uint64 {
	s.state += 0x9e3779b97f4a7c15
	z := s.state
	z = (z ^ z>>30) * 0xbf58476d1ce4e5b9
	z = (z ^ z>>27) * 0x94d049bb133111eb
	return z ^ z>>31
}

// sized tells numbers of all lengths alike.
func (s *source) sized() uint64 {
	return s.next() >> (s.next() % 64)
}

func (s *source) below(n int) int {
	return int(s.next() % uint64(n))
}

func (s *source) bytes(n int) []byte {
	b := make([]byte, n)
	for i := range b {
		b[i] = byte(s.next())
	}
	return b
}

// spoil changes a list and the room behind its end.
func spoil(b []byte) {
	b = b[:cap(b)]
	for i := range b {
		b[i] ^= 255
	}
}

func wantGet(t *testing.T, b []byte, u uint64, length int) {
	t.Helper()
	if got, n := codec.Get(b); got != u || n != length {
		t.Errorf("Get(%d): %d, %d; want %d, %d", b, got, n, u, length)
	}
}

func wantGetText(t *testing.T, b []byte, s string, length int) {
	t.Helper()
	if got, n := codec.GetText(b); got != s || n != length {
		t.Errorf("GetText(%q): %q, %d; want %q, %d", b, got, n, s, length)
	}
}

// P1.2
func TestZigZag(t *testing.T) {
	for _, c := range []struct {
		n int
		u uint64
	}{
		{0, 0}, {-1, 1}, {1, 2}, {-2, 3}, {2, 4}, {-64, 127}, {64, 128},
		{math.MaxInt32, 1<<32 - 2}, {math.MinInt32, 1<<32 - 1},
		{math.MaxInt - 1, math.MaxUint64 - 3}, {math.MinInt + 1, math.MaxUint64 - 2},
		{math.MaxInt, math.MaxUint64 - 1}, {math.MinInt, math.MaxUint64},
	} {
		if got := codec.Zig(c.n); got != c.u {
			t.Errorf("Zig(%d): %d, want %d", c.n, got, c.u)
		}
		if got := codec.Zag(c.u); got != c.n {
			t.Errorf("Zag(%d): %d, want %d", c.u, got, c.n)
		}
	}
}

// P1.4
func TestZagUndoesZig(t *testing.T) {
	source := newSource(11)
	for range 10000 {
		u := source.sized()
		if got := codec.Zig(codec.Zag(u)); got != u {
			t.Errorf("Zig(Zag(%d)): %d", u, got)
		}
		if got := codec.Zag(codec.Zig(int(u))); got != int(u) {
			t.Errorf("Zag(Zig(%d)): %d", int(u), got)
		}
	}
}

// P1.2
func TestPutGet(t *testing.T) {
	for _, c := range []struct {
		u    uint64
		want []byte
	}{
		{0, []byte{0}},
		{1, []byte{1}},
		{127, []byte{127}},
		{128, []byte{128, 1}},
		{300, []byte{172, 2}},
		{16383, []byte{255, 127}},
		{16384, []byte{128, 128, 1}},
		{1<<63 - 1, []byte{255, 255, 255, 255, 255, 255, 255, 255, 127}},
		{1 << 63, []byte{128, 128, 128, 128, 128, 128, 128, 128, 128, 1}},
		{math.MaxUint64 - 1, []byte{254, 255, 255, 255, 255, 255, 255, 255, 255, 1}},
		{math.MaxUint64, []byte{255, 255, 255, 255, 255, 255, 255, 255, 255, 1}},
	} {
		if got := codec.Put(nil, c.u); !bytes.Equal(got, c.want) {
			t.Errorf("Put(nothing, %d): %d, want %d", c.u, got, c.want)
		}
		if got, want := codec.Put([]byte{7, 200}, c.u), append([]byte{7, 200}, c.want...); !bytes.Equal(got, want) {
			t.Errorf("Put([7 200], %d): %d, want %d", c.u, got, want)
		}
		wantGet(t, c.want, c.u, len(c.want))
		wantGet(t, append(bytes.Clone(c.want), 255, 0), c.u, len(c.want))
	}
}

// P1.2: bytes that no number begins.
func TestGetNone(t *testing.T) {
	for _, b := range [][]byte{
		nil,
		{},
		{128},
		{255},
		{128, 0},
		{255, 0},
		{172, 2 + 128, 0},
		{128, 128, 0},
		{255, 255, 255, 255, 255, 255, 255, 255, 255},
		{255, 255, 255, 255, 255, 255, 255, 255, 255, 0},
		{255, 255, 255, 255, 255, 255, 255, 255, 255, 2},
		{128, 128, 128, 128, 128, 128, 128, 128, 128, 2},
		{128, 128, 128, 128, 128, 128, 128, 128, 128, 3},
		{255, 255, 255, 255, 255, 255, 255, 255, 255, 127},
		{255, 255, 255, 255, 255, 255, 255, 255, 255, 128},
		{255, 255, 255, 255, 255, 255, 255, 255, 255, 129},
		{255, 255, 255, 255, 255, 255, 255, 255, 255, 129, 0},
		{255, 255, 255, 255, 255, 255, 255, 255, 255, 129, 1},
		{128, 128, 128, 128, 128, 128, 128, 128, 128, 128, 1},
		bytes.Repeat([]byte{128}, 1000),
		bytes.Repeat([]byte{255}, 1000),
	} {
		wantGet(t, b, 0, 0)
	}
}

// P1.2: each beginning of a number ends too early.
func TestGetBeginnings(t *testing.T) {
	for shift := range 64 {
		b := codec.Put(nil, 1<<shift)
		for end := range len(b) {
			wantGet(t, b[:end], 0, 0)
		}
	}
}

// P1.4
func TestGetUndoesPut(t *testing.T) {
	source := newSource(12)
	for range 10000 {
		u := source.sized()
		b := codec.Put(nil, u)
		if !bytes.Equal(b, binary.AppendUvarint(nil, u)) {
			t.Errorf("Put(nothing, %d): %d", u, b)
		}
		wantGet(t, b, u, max(1, (bits.Len64(u)+6)/7))
	}
}

// P1.4: what Get takes is what Put writes, and nothing else.
func TestPutUndoesGet(t *testing.T) {
	source := newSource(13)
	for range 50000 {
		b := source.bytes(source.below(13))
		for i := range b {
			b[i] |= byte(source.next()) & 128
		}
		u, n := codec.Get(b)
		if n == 0 && u != 0 || n > 0 && !bytes.Equal(codec.Put(nil, u), b[:n]) {
			t.Errorf("Get(%d): %d, %d", b, u, n)
		}
	}
}

// P1.2
func TestTexts(t *testing.T) {
	long := strings.Repeat("x", 300)
	for _, c := range []struct {
		s    string
		want string
	}{
		{"", "\x00"},
		{"a", "\x01a"},
		{"ab", "\x02ab"},
		{"\x00", "\x01\x00"},
		{"\xff\xfe", "\x02\xff\xfe"},
		{"é", "\x02é"},
		{long[:127], "\x7f" + long[:127]},
		{long[:128], "\x80\x01" + long[:128]},
		{long, "\xac\x02" + long},
	} {
		if got := codec.PutText(nil, c.s); string(got) != c.want {
			t.Errorf("PutText(nothing, %q): %q, want %q", c.s, got, c.want)
		}
		if got := codec.PutText([]byte{7, 200}, c.s); string(got) != "\x07\xc8"+c.want {
			t.Errorf("PutText([7 200], %q): %q", c.s, got)
		}
		wantGetText(t, []byte(c.want), c.s, len(c.want))
		wantGetText(t, []byte(c.want+"\xff\x00"), c.s, len(c.want))
	}
}

// P1.2: bytes that no text begins.
func TestGetTextNone(t *testing.T) {
	for _, b := range [][]byte{
		nil,
		{},
		{1},
		{2, 'a'},
		{128},
		{128, 0},
		{129, 0, 'a'},
		append(codec.Put(nil, 1<<31), 'a'),
		append(codec.Put(nil, math.MaxInt), 'a'),
		append(codec.Put(nil, math.MaxInt+1), 'a'),
		append(codec.Put(nil, math.MaxUint64), 'a'),
		append(bytes.Repeat([]byte{255}, 10), 'a'),
	} {
		wantGetText(t, b, "", 0)
	}
}

// P1.4
func TestGetTextUndoesPutText(t *testing.T) {
	source := newSource(14)
	for n := range 400 {
		s := string(source.bytes(n))
		b := codec.PutText(nil, s)
		wantGetText(t, b, s, len(b))
		for end := range len(b) {
			wantGetText(t, b[:end], "", 0)
		}
	}
}

// R3: neither the list nor the room behind its end is changed, and the answer's room is its own.
func TestPutMemory(t *testing.T) {
	for _, size := range []int{0, 1, 4, 40} {
		room := bytes.Repeat([]byte{9}, 100)
		before := bytes.Clone(room)
		b := room[:size]
		first := codec.Put(b, 300)
		second := codec.Put(b, 301)
		third := codec.PutText(b, "abc")
		if !bytes.Equal(first, append(bytes.Clone(b), 172, 2)) {
			t.Errorf("Put changed what an earlier one answered: %d", first)
		}
		spoil(first)
		spoil(second)
		spoil(third)
		if !bytes.Equal(room, before) {
			t.Errorf("Put or PutText behind %d bytes changed its argument: %d", size, room)
		}
	}
}

// R3: a text that was told does not change with the bytes.
func TestGetTextMemory(t *testing.T) {
	b := []byte("\x03abc")
	s, _ := codec.GetText(b)
	spoil(b)
	if s != "abc" {
		t.Errorf("GetText keeps its argument: %q", s)
	}
}
