package codec_test

import (
	"bytes"
	"hash/crc32"
	"testing"

	"skerry/api"
	"skerry/codec"
)

// wantUnframe also holds what must stand beside an error: no content and no length.
func wantUnframe(t *testing.T, what string, b, content []byte, length int, want api.Errno) {
	t.Helper()
	got, n, e := codec.Unframe(b)
	if !bytes.Equal(got, content) || n != length || e != want {
		t.Errorf("Unframe of %s: %d bytes, %d, %v; want %d bytes, %d, %v", what, len(got), n, e, len(content), length, want)
	}
}

// P1.1
func TestSumKnown(t *testing.T) {
	for _, c := range []struct {
		text string
		want uint32
	}{
		{"", 0},
		{"a", 0xe8b7be43},
		{"123456789", 0xcbf43926},
		{"\x00\x00\x00\x00", 0x2144df1c},
		{"\xff\xff\xff\xff", 0xffffffff},
	} {
		if got := codec.Sum([]byte(c.text)); got != c.want {
			t.Errorf("Sum(%q): %#x, want %#x", c.text, got, c.want)
		}
	}
	if codec.Sum(nil) != 0 {
		t.Error("Sum(nil) is not 0")
	}
}

// P1.1
func TestSumIsCRC32(t *testing.T) {
	for i := range 256 {
		one := []byte{byte(i)}
		if got, want := codec.Sum(one), crc32.ChecksumIEEE(one); got != want {
			t.Errorf("Sum of the byte %d: %#x, want %#x", i, got, want)
		}
	}
	source := newSource(1)
	for n := range 300 {
		b := source.bytes(n)
		if got, want := codec.Sum(b), crc32.ChecksumIEEE(b); got != want {
			t.Errorf("Sum of %d bytes: %#x, want %#x", n, got, want)
		}
	}
}

// P1.1
func TestFrameBytes(t *testing.T) {
	for _, c := range []struct {
		content []byte
		want    []byte
	}{
		{nil, []byte{0, 0, 0, 0, 0x21, 0x44, 0xdf, 0x1c}},
		{[]byte{}, []byte{0, 0, 0, 0, 0x21, 0x44, 0xdf, 0x1c}},
		{[]byte("ab"), []byte{0, 0, 0, 2, 0x6d, 0x1c, 0x2f, 0x5f, 'a', 'b'}},
	} {
		if got := codec.Frame(c.content); !bytes.Equal(got, c.want) {
			t.Errorf("Frame(%q): %x, want %x", c.content, got, c.want)
		}
		wantUnframe(t, "its frame", c.want, c.content, len(c.want), api.OK)
	}
}

// P1.1: the count and the sum have their highest byte first, whatever the size.
func TestFrameHead(t *testing.T) {
	source := newSource(2)
	for _, n := range []int{1, 255, 256, 65535, 65536, api.MaxFrame - 1, api.MaxFrame} {
		content := source.bytes(n)
		f := codec.Frame(content)
		if len(f) != 8+n {
			t.Fatalf("Frame of %d bytes has %d", n, len(f))
		}
		count := []byte{byte(n >> 24), byte(n >> 16), byte(n >> 8), byte(n)}
		sum := crc32.ChecksumIEEE(append(append([]byte{}, count...), content...))
		head := append(count, byte(sum>>24), byte(sum>>16), byte(sum>>8), byte(sum))
		if !bytes.Equal(f[:8], head) || !bytes.Equal(f[8:], content) {
			t.Errorf("Frame of %d bytes begins %x, want %x, or its content is another", n, f[:8], head)
		}
		wantUnframe(t, "a frame", f, content, len(f), api.OK)
	}
}

// P1.1: MaxFrame bytes are a frame's, one more is not.
func TestFrameTooLong(t *testing.T) {
	if got := codec.Frame(make([]byte, api.MaxFrame)); len(got) != api.MaxFrame+8 {
		t.Errorf("Frame of MaxFrame bytes has %d", len(got))
	}
	for _, n := range []int{api.MaxFrame + 1, api.MaxFrame + 2, 2 * api.MaxFrame} {
		if got := codec.Frame(make([]byte, n)); len(got) != 0 {
			t.Errorf("Frame of %d bytes has %d, want none", n, len(got))
		}
	}
}

// P1.1: the errors, each in its place ahead of those behind it.
func TestUnframeErrors(t *testing.T) {
	const above = api.MaxFrame + 1
	aboveCount := []byte{above >> 24, above >> 16 & 255, above >> 8 & 255, above & 255}
	mostCount := []byte{0, api.MaxFrame >> 16, 0, 0}
	full := codec.Frame(make([]byte, api.MaxFrame))
	wrong := codec.Frame([]byte("abc"))
	wrong[5] ^= 16
	for _, c := range []struct {
		what string
		b    []byte
		want api.Errno
	}{
		{"nil", nil, api.ErrAgain},
		{"nothing", []byte{}, api.ErrAgain},
		{"seven bytes", make([]byte, 7), api.ErrAgain},
		{"seven bytes with a count that is too great", bytes.Repeat([]byte{255}, 7), api.ErrAgain},
		{"a count above MaxFrame", append(aboveCount, 0, 0, 0, 0), api.ErrRange},
		{"a count above MaxFrame, and all its bytes", append(append([]byte{}, aboveCount...), make([]byte, 4+above)...), api.ErrRange},
		{"the greatest count", bytes.Repeat([]byte{255}, 8), api.ErrRange},
		{"a count with the highest bit", []byte{128, 0, 0, 0, 0, 0, 0, 0, 0}, api.ErrRange},
		{"the count MaxFrame alone", append(mostCount, 0, 0, 0, 0), api.ErrAgain},
		{"a frame of MaxFrame without its last byte", full[:len(full)-1], api.ErrAgain},
		{"a wrong sum without the last byte", wrong[:len(wrong)-1], api.ErrAgain},
		{"a wrong sum", wrong, api.ErrCorrupt},
		{"a wrong sum of nothing", make([]byte, 8), api.ErrCorrupt},
	} {
		wantUnframe(t, c.what, c.b, nil, 0, c.want)
	}
}

// P1.1: the sum is of the count, too.
func TestSumCoversCount(t *testing.T) {
	f := codec.Frame([]byte("abc"))
	f[3] = 2
	wantUnframe(t, "a frame with a lesser count", f, nil, 0, api.ErrCorrupt)
}

// P1.1: Unframe looks at what its bytes begin with, and leaves what is behind.
func TestUnframeBeginning(t *testing.T) {
	first, second := codec.Frame([]byte("one")), codec.Frame(nil)
	both := append(append(append([]byte{}, first...), second...), 255, 255)
	wantUnframe(t, "two frames", both, []byte("one"), len(first), api.OK)
	wantUnframe(t, "the second frame", both[len(first):], nil, len(second), api.OK)
}

// P1.4
func TestFrameBitTurned(t *testing.T) {
	for _, n := range []int{0, 1, 2, 3, 40, 1000} {
		f := codec.Frame(newSource(3).bytes(n))
		for bit := 32; bit < 8*len(f); bit++ {
			f[bit/8] ^= 1 << (bit % 8)
			wantUnframe(t, "a frame with a bit turned", f, nil, 0, api.ErrCorrupt)
			f[bit/8] ^= 1 << (bit % 8)
		}
	}
}

// P1.4
func TestFrameBitTurnedInTheLongest(t *testing.T) {
	f := codec.Frame(newSource(4).bytes(api.MaxFrame))
	for _, at := range []int{4, 7, 8, len(f) / 2, len(f) - 1} {
		f[at] ^= 128
		wantUnframe(t, "the longest frame with a bit turned", f, nil, 0, api.ErrCorrupt)
		f[at] ^= 128
	}
}

// P1.4
func TestFrameBeginnings(t *testing.T) {
	for _, n := range []int{0, 1, 2, 3, 40, 1000} {
		f := codec.Frame(newSource(5).bytes(n))
		for end := range len(f) {
			wantUnframe(t, "a frame's beginning", f[:end], nil, 0, api.ErrAgain)
		}
	}
}

// P1.4
func TestUnframeUndoesFrame(t *testing.T) {
	source := newSource(6)
	for n := range 600 {
		content := source.bytes(n)
		f := codec.Frame(content)
		wantUnframe(t, "a frame", f, content, 8+n, api.OK)
		got, _, _ := codec.Unframe(f)
		if !bytes.Equal(codec.Frame(got), f) {
			t.Errorf("Frame of what Unframe told of %d bytes is another", n)
		}
	}
}

// R3
func TestFrameMemory(t *testing.T) {
	room := []byte("abcdef")
	f := codec.Frame(room[:3])
	f[8] = 'x'
	if string(room) != "abcdef" {
		t.Errorf("Frame shares its argument: %q", room)
	}
	whole := append(codec.Frame([]byte("abc")), "rest"...)
	before := bytes.Clone(whole)
	content, _, _ := codec.Unframe(whole)
	spoil(content)
	if !bytes.Equal(whole, before) {
		t.Errorf("Unframe shares its argument: %q", whole)
	}
}
