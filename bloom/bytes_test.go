package bloom_test

import (
	"bytes"
	"math"
	"slices"
	"testing"

	"skerry/api"
	"skerry/bloom"
	"skerry/codec"
)

// told: what Bytes tells of a filter of that K and those bits, spelt by codec.
func told(hashes uint64, bits []byte) []byte {
	return append(codec.Put(codec.Put(nil, hashes), uint64(len(bits))), bits...)
}

func join(parts ...[]byte) []byte {
	return bytes.Join(parts, nil)
}

func read(t *testing.T, b []byte) *bloom.Filter {
	t.Helper()
	f, e := bloom.Read(b)
	if f == nil || e != api.OK {
		t.Fatalf("Read of %d bytes: %v, %v", len(b), f != nil, e)
	}
	return f
}

func wantCorrupt(t *testing.T, what string, b []byte) {
	t.Helper()
	if f, e := bloom.Read(b); f != nil || e != api.ErrCorrupt {
		t.Errorf("Read of %s: a filter is %v, %v; want %v", what, f != nil, e, api.ErrCorrupt)
	}
}

// P8.2
func TestBytesKnown(t *testing.T) {
	for _, c := range []struct {
		n, bits int
		keys    []string
		want    []byte
	}{
		{0, 1, nil, []byte{1, 1, 0}},
		{0, 32, nil, []byte{16, 1, 0}},
		{1, 10, nil, []byte{7, 2, 0, 0}},
		{1, 10, []string{""}, []byte{7, 2, 1, 0}},
		{1, 10, []string{"hello"}, []byte{7, 2, 0x54, 0xa9}},
		{1, 10, []string{"hello", ""}, []byte{7, 2, 0x55, 0xa9}},
		{127, 8, nil, join([]byte{5, 127}, make([]byte, 127))},
		{128, 8, nil, join([]byte{5, 128, 1}, make([]byte, 128))},
		{100000, 32, nil, join([]byte{16, 128, 181, 24}, make([]byte, 400000))},
	} {
		f := newFilter(t, c.n, c.bits)
		for _, k := range c.keys {
			f.Add([]byte(k))
		}
		if got := f.Bytes(); !bytes.Equal(got, c.want) {
			t.Errorf("Bytes of New(%d, %d) with %q: %d bytes that are not the %d wanted", c.n, c.bits, c.keys, len(got), len(c.want))
		}
	}
}

// P8.2: each K and each byte of bits is a filter's, whichever calls of New could have made it.
func TestReadGood(t *testing.T) {
	source := newSource(21)
	for hashes := uint64(1); hashes <= 16; hashes++ {
		for _, size := range []int{1, 2, 3, 127, 128, 129, 16383, 16384, 399999, 400000} {
			b := told(hashes, source.bytes(size))
			f := read(t, b)
			if f.Size() != 8*size || !bytes.Equal(f.Bytes(), b) {
				t.Errorf("Read of K %d and %d bytes of bits: Size %d, or other bytes", hashes, size, f.Size())
			}
			wantPlaces(t, f, []byte("key"), slowPlaces([]byte("key"), int(hashes), 8*size))
		}
	}
	for x := range 256 {
		b := []byte{3, 1, byte(x)}
		if got := read(t, b).Bytes(); !bytes.Equal(got, b) {
			t.Errorf("Read(%d) has the bytes %d", b, got)
		}
	}
}

// P8.2
func TestReadWrong(t *testing.T) {
	most := make([]byte, 400001)
	for _, c := range []struct {
		what string
		b    []byte
	}{
		{"nil", nil},
		{"nothing", []byte{}},
		{"K alone", []byte{7}},
		{"a K that is cut", []byte{135}},
		{"K and a count", []byte{7, 2}},
		{"K and a count that is cut", []byte{7, 130}},
		{"bits that are cut", []byte{7, 2, 0}},
		{"a byte behind the bits", []byte{7, 2, 0, 0, 0}},
		{"a second filter behind the first", []byte{7, 2, 0, 0, 7, 2, 0, 0}},
		{"K 0", []byte{0, 1, 0}},
		{"K 17", []byte{17, 1, 0}},
		{"K 127", []byte{127, 1, 0}},
		{"K 128", told(128, []byte{0})},
		{"K 256 and 7", told(256+7, []byte{0})},
		{"K 2^32 and 7", told(1<<32+7, []byte{0})},
		{"K 2^63 and 7", told(1<<63+7, []byte{0})},
		{"K 2^64 - 1", told(math.MaxUint64, []byte{0})},
		{"K above 64 bits", join(bytes.Repeat([]byte{255}, 9), []byte{2, 1, 0})},
		{"no bits", []byte{7, 0}},
		{"no bits and a byte", []byte{7, 0, 0}},
		{"K 0 and no bits", []byte{0, 0}},
		{"K 17 and no bits", []byte{17, 0}},
		{"400001 bytes", told(7, most)},
		{"a count of 400000 with a byte less", told(7, most[:400000])[:400003]},
		{"a count of 400000 with a byte more", append(told(7, most[:400000]), 0)},
		{"K 0 with 400000 bytes", told(0, most[:400000])},
		{"K 17 with 400000 bytes", told(17, most[:400000])},
		{"a count of 256 and 1", join([]byte{7}, codec.Put(nil, 257), []byte{0})},
		{"a count of 2^32 and 1", join([]byte{7}, codec.Put(nil, 1<<32+1), []byte{0})},
		{"a count of 2^63 and 1", join([]byte{7}, codec.Put(nil, 1<<63+1), []byte{0})},
		{"a count of 2^64 - 1", join([]byte{7}, codec.Put(nil, math.MaxUint64), []byte{0})},
		{"a count above 64 bits", join([]byte{7}, bytes.Repeat([]byte{255}, 9), []byte{2, 0})},
		{"a K that is longer than it needs", []byte{135, 0, 2, 0, 0}},
		{"a K that is much longer than it needs", []byte{135, 128, 128, 0, 2, 0, 0}},
		{"a count that is longer than it needs", []byte{7, 130, 0, 0, 0}},
		{"a count that is much longer than it needs", []byte{7, 130, 128, 0, 0, 0}},
		{"K 0 in two bytes", []byte{128, 0, 1, 0}},
		{"bits ahead of all else", []byte{0, 7, 1}},
	} {
		wantCorrupt(t, c.what, c.b)
	}
}

// P8.2: each beginning of a filter's bytes is none, nor is anything with more behind it.
func TestReadBeginnings(t *testing.T) {
	for _, n := range []int{0, 1, 20, 300} {
		b := filterOf(t, n, 10, newSource(22).keys(20)...).Bytes()
		for end := range len(b) {
			wantCorrupt(t, "a beginning", b[:end])
		}
		for x := range 256 {
			wantCorrupt(t, "a byte more", join(b, []byte{byte(x)}))
		}
	}
}

// P8.3: what was read answers as what was written, and goes on as it does.
func TestReadUndoesBytes(t *testing.T) {
	source := newSource(23)
	for range 500 {
		n, bits := source.below(50), 1+source.below(32)
		keys := source.keys(1 + source.below(20))
		first := filterOf(t, n, bits, keys...)
		second := read(t, first.Bytes())
		if first.Size() != second.Size() || !bytes.Equal(first.Bytes(), second.Bytes()) {
			t.Fatalf("New(%d, %d) is read as another filter", n, bits)
		}
		for _, k := range keys {
			wantMay(t, second, k, true)
		}
		for _, k := range source.keys(20) {
			wantPlaces(t, second, k, first.Places(k))
			wantMay(t, second, k, first.May(k))
			first.Add(k)
			second.Add(k)
			wantMay(t, second, k, true)
		}
		if !bytes.Equal(first.Bytes(), second.Bytes()) {
			t.Fatalf("New(%d, %d) that was read goes on as another filter", n, bits)
		}
	}
}

// P8.3: at the greatest size and at the least.
func TestReadUndoesBytesAtEnds(t *testing.T) {
	for _, c := range []struct{ n, bits int }{{0, 1}, {0, 32}, {1, 1}, {1, 32}, {100000, 1}, {100000, 32}} {
		keys := newSource(24).keys(1000)
		b := filterOf(t, c.n, c.bits, keys...).Bytes()
		f := read(t, b)
		if !bytes.Equal(f.Bytes(), b) {
			t.Errorf("New(%d, %d) is read as another filter", c.n, c.bits)
		}
		for _, k := range keys {
			wantMay(t, f, k, true)
		}
	}
}

// P8.1 and P8.2: with all bits set but one, May is false of just those keys that have a place there.
func TestMayLacksOne(t *testing.T) {
	source := newSource(25)
	for hashes := uint64(1); hashes <= 16; hashes++ {
		for _, k := range source.keys(5) {
			places := slowPlaces(k, int(hashes), 48)
			for at := range 48 {
				bits := bytes.Repeat([]byte{255}, 6)
				bits[at/8] -= byte(math.Pow(2, float64(at%8)))
				wantMay(t, read(t, told(hashes, bits)), k, !slices.Contains(places, at))
			}
			wantMay(t, read(t, told(hashes, bytes.Repeat([]byte{255}, 6))), k, true)
		}
	}
}

// P8.2 and R1: bytes are refused, or are just what Bytes tells of what was read.
func TestReadAny(t *testing.T) {
	source := newSource(26)
	good := 0
	for range 50000 {
		b := source.bytes(source.below(8))
		for i := range min(len(b), 3) {
			b[i] &= byte(source.next() & source.next())
		}
		f, e := bloom.Read(b)
		switch {
		case e == api.OK && (f == nil || !bytes.Equal(f.Bytes(), b)):
			t.Fatalf("Read(%d): a filter of other bytes", b)
		case e != api.OK && (e != api.ErrCorrupt || f != nil):
			t.Fatalf("Read(%d): %v", b, e)
		case e == api.OK:
			good++
		}
	}
	if good < 100 {
		t.Errorf("%d were good: too few to tell", good)
	}
}
