package bloom_test

import (
	"bytes"
	"fmt"
	"math"
	"math/big"
	"slices"
	"strings"
	"testing"

	"skerry/bloom"
	"skerry/murmur"
)

// source tells the same numbers each time (SplitMix64), so that a test that failed fails again.
type source struct {
	state uint64
}

func newSource(seed uint64) *source {
	return &source{state: seed}
}

func (s *source) next() uint64 {
	s.state += 0x9e3779b97f4a7c15
	z := s.state
	z = (z ^ z>>30) * 0xbf58476d1ce4e5b9
	z = (z ^ z>>27) * 0x94d049bb133111eb
	return z ^ z>>31
}

func (s *source) below(n int) int {
	return int(s.next() % uint64(n))
}

func (s *source) bytes(n int) []byte {
	b := make([]byte, n)
	for i := range b {
		b[i] = byte(s.next())
	}
	return b
}

// keys: n of them, of all lengths below 40.
func (s *source) keys(n int) [][]byte {
	l := make([][]byte, n)
	for i := range l {
		l[i] = s.bytes(s.below(40))
	}
	return l
}

// hashesOf: K of each count of bits from 1 to 32, reckoned by hand.
func hashesOf(bits int) int {
	return [...]int{1, 1, 2, 2, 3, 4, 4, 5, 6, 7, 7, 8, 9, 9, 10, 11, 11, 12, 13, 14, 14, 15, 16, 16, 16, 16, 16, 16, 16, 16, 16, 16}[bits-1]
}

// slowPlaces reckons by whole numbers of any size, and takes them modulo 2^64 in one place alone.
func slowPlaces(b []byte, hashes, size int) []int {
	first, second := murmur.Sum(b, 0)
	h1, h2 := new(big.Int).SetUint64(first), new(big.Int).SetUint64(second)
	var places []int
	for i := range hashes {
		n := new(big.Int).Mul(h2, big.NewInt(int64(i)))
		n.Add(n, h1)
		n.Mod(n, new(big.Int).Lsh(big.NewInt(1), 64))
		n.Mod(n, big.NewInt(int64(size)))
		places = append(places, int(n.Int64()))
	}
	return places
}

// bitsOf: the bits of what Bytes told of a filter of so many bits.
func bitsOf(f *bloom.Filter) []byte {
	b := f.Bytes()
	return b[len(b)-f.Size()/8:]
}

// setBits: the places at which bits are set, in their order.
func setBits(b []byte) []int {
	var places []int
	for i, x := range b {
		for j, digit := range slices.Backward([]byte(fmt.Sprintf("%08b", x))) {
			if digit == '1' {
				places = append(places, 8*i+7-j)
			}
		}
	}
	return places
}

// once: places in their order, each of them one time.
func once(places []int) []int {
	l := slices.Clone(places)
	slices.Sort(l)
	return slices.Compact(l)
}

func newFilter(t *testing.T, n, bits int) *bloom.Filter {
	t.Helper()
	f := bloom.New(n, bits)
	if f == nil {
		t.Fatalf("New(%d, %d): nil", n, bits)
	}
	return f
}

func filterOf(t *testing.T, n, bits int, keys ...[]byte) *bloom.Filter {
	t.Helper()
	f := newFilter(t, n, bits)
	for _, k := range keys {
		f.Add(k)
	}
	return f
}

func wantMay(t *testing.T, f *bloom.Filter, k []byte, want bool) {
	t.Helper()
	if got := f.May(k); got != want {
		t.Fatalf("May(%q): %v, want %v", k, got, want)
	}
}

func wantPlaces(t *testing.T, f *bloom.Filter, k []byte, want []int) {
	t.Helper()
	if got := f.Places(k); !slices.Equal(got, want) {
		t.Fatalf("Places(%q): %v, want %v", k, got, want)
	}
}

func wantBits(t *testing.T, f *bloom.Filter, want []int) {
	t.Helper()
	if got := setBits(bitsOf(f)); !slices.Equal(got, want) {
		t.Fatalf("the bits that are set: %v, want %v", got, want)
	}
}

// P8.1: the chapter's examples.
func TestExample(t *testing.T) {
	f := newFilter(t, 1, 10)
	if f.Size() != 16 || len(f.Places([]byte("a"))) != 7 {
		t.Errorf("New(1, 10): %d bits, %d places", f.Size(), len(f.Places([]byte("a"))))
	}
	f = newFilter(t, 0, 1)
	if f.Size() != 8 || len(f.Places([]byte("a"))) != 1 {
		t.Errorf("New(0, 1): %d bits, %d places", f.Size(), len(f.Places([]byte("a"))))
	}
	for _, k := range append(newSource(1).keys(100), nil, []byte{}, []byte("a")) {
		wantMay(t, f, k, false)
	}
}

// P8.1
func TestNewSize(t *testing.T) {
	for _, c := range []struct{ n, bits, want int }{
		{0, 1, 8}, {0, 10, 8}, {0, 32, 8},
		{1, 1, 8}, {1, 7, 8}, {1, 8, 8}, {1, 9, 16}, {1, 10, 16}, {1, 15, 16}, {1, 16, 16}, {1, 17, 24}, {1, 32, 32},
		{2, 1, 8}, {2, 4, 8}, {2, 5, 16}, {7, 1, 8}, {8, 1, 8}, {9, 1, 16}, {3, 3, 16}, {4, 10, 40}, {5, 10, 56},
		{100, 10, 1000}, {101, 10, 1016}, {1001, 1, 1008},
		{99999, 1, 100000}, {99999, 7, 700000}, {99999, 31, 3099976}, {99999, 32, 3199968},
		{100000, 1, 100000}, {100000, 10, 1000000}, {100000, 31, 3100000}, {100000, 32, 3200000},
	} {
		f := newFilter(t, c.n, c.bits)
		if got := f.Size(); got != c.want {
			t.Errorf("Size of New(%d, %d): %d, want %d", c.n, c.bits, got, c.want)
		}
		if got := len(bitsOf(f)) * 8; got != c.want {
			t.Errorf("New(%d, %d) has %d bits in its bytes, want %d", c.n, c.bits, got, c.want)
		}
	}
}

// P8.1
func TestNewNone(t *testing.T) {
	for _, c := range []struct{ n, bits int }{
		{-1, 1}, {-1, 10}, {-8, 8}, {math.MinInt, 1}, {math.MinInt, 32}, {math.MinInt + 1, 8},
		{100001, 1}, {100001, 10}, {100001, 32}, {200000, 1}, {math.MaxInt32, 8}, {math.MaxInt, 1}, {math.MaxInt, 32}, {1 << 61, 8}, {1 << 62, 4},
		{0, 0}, {0, -1}, {1, 0}, {1, -1}, {10, math.MinInt}, {100000, 0},
		{0, 33}, {1, 33}, {1, 64}, {100000, 33}, {10, math.MaxInt}, {8, 1 << 61},
		{-1, -1}, {-1, 0}, {-1, 33}, {100001, 0}, {100001, 33},
		{math.MinInt, math.MinInt}, {math.MaxInt, math.MaxInt}, {math.MinInt, math.MaxInt}, {math.MaxInt, math.MinInt},
	} {
		if f := bloom.New(c.n, c.bits); f != nil {
			t.Errorf("New(%d, %d) is not nil", c.n, c.bits)
		}
	}
}

// P8.1: K by each count of bits, whatever n is; the first number of Bytes tells it, too.
func TestHashes(t *testing.T) {
	for bits := 1; bits <= 32; bits++ {
		for _, n := range []int{0, 1, 3, 1000} {
			f := newFilter(t, n, bits)
			for _, k := range []string{"", "a", strings.Repeat("k", 100)} {
				if got := len(f.Places([]byte(k))); got != hashesOf(bits) {
					t.Errorf("New(%d, %d) has %d places, want %d", n, bits, got, hashesOf(bits))
				}
			}
			if got := int(f.Bytes()[0]); got != hashesOf(bits) {
				t.Errorf("New(%d, %d) tells K %d, want %d", n, bits, got, hashesOf(bits))
			}
		}
	}
}

// P8.1: the hashes of hello are cbd8a7b341bd9b02 and 5b1e906a48ae1d19, as others reckon them.
func TestPlacesKnown(t *testing.T) {
	for _, c := range []struct {
		n, bits int
		want    []int
	}{
		{0, 1, []int{2}},
		{1, 10, []int{2, 11, 4, 13, 6, 15, 8}},
		{1, 32, []int{2, 27, 20, 13, 6, 31, 24, 17, 10, 3, 28, 21, 14, 7, 0, 25}},
		{8, 32, []int{2, 27, 52, 77, 102, 127, 152, 177, 202, 227, 252, 21, 46, 71, 96, 121}},
	} {
		wantPlaces(t, newFilter(t, c.n, c.bits), []byte("hello"), c.want)
	}
}

// P8.1: of no bytes both hashes are 0, so that all places are the first one.
func TestPlacesOfNothing(t *testing.T) {
	for _, k := range [][]byte{nil, {}} {
		wantPlaces(t, newFilter(t, 0, 1), k, []int{0})
		wantPlaces(t, newFilter(t, 5, 10), k, make([]int, 7))
		wantPlaces(t, newFilter(t, 100000, 32), k, make([]int, 16))
	}
}

// P8.1: sizes that are powers of two and that are not, so that the two remainders tell.
func TestPlacesByWords(t *testing.T) {
	source := newSource(2)
	twice, wrapped := 0, 0
	for range 3000 {
		n, bits := source.below(200), 1+source.below(32)
		f := newFilter(t, n, bits)
		k := source.bytes(source.below(40))
		want := slowPlaces(k, hashesOf(bits), f.Size())
		wantPlaces(t, f, k, want)
		if len(once(want)) < len(want) {
			twice++
		}
		if h1, h2 := murmur.Sum(k, 0); len(want) > 1 && f.Size()&(f.Size()-1) != 0 && h1+h2 < h1 {
			wrapped++
		}
	}
	if twice < 100 || wrapped < 100 {
		t.Errorf("places came twice %d times, sums wrapped %d times: too few to tell", twice, wrapped)
	}
}

// P8.1: the greatest filter has places far behind its beginning.
func TestPlacesOfTheGreatest(t *testing.T) {
	f := newFilter(t, 100000, 32)
	source := newSource(3)
	greatest := 0
	for _, k := range source.keys(1000) {
		want := slowPlaces(k, 16, 3200000)
		wantPlaces(t, f, k, want)
		greatest = max(greatest, slices.Max(want))
	}
	if greatest < 3100000 {
		t.Errorf("the greatest place is %d", greatest)
	}
}

// P8.1: places hang on the key and on the sizes alone.
func TestPlacesLater(t *testing.T) {
	source := newSource(4)
	f := newFilter(t, 20, 10)
	want := slowPlaces([]byte("k"), 7, 200)
	for _, k := range source.keys(20) {
		wantPlaces(t, f, []byte("k"), want)
		f.Add(k)
	}
	wantPlaces(t, f, []byte("k"), want)
}

// P8.1: just the bits at the places of what was added are set.
func TestAddSets(t *testing.T) {
	source := newSource(5)
	for range 300 {
		n, bits := source.below(30), 1+source.below(32)
		f := newFilter(t, n, bits)
		wantBits(t, f, nil)
		var all []int
		for _, k := range source.keys(1 + source.below(10)) {
			f.Add(k)
			all = append(all, slowPlaces(k, hashesOf(bits), f.Size())...)
			wantBits(t, f, once(all))
		}
	}
}

// P8.1: a key's first bit is the lowest one of its byte.
func TestAddKnown(t *testing.T) {
	for _, c := range []struct {
		n, bits int
		key     string
		want    []byte
	}{
		{0, 1, "", []byte{1}},
		{0, 1, "hello", []byte{4}},
		{0, 32, "", []byte{1}},
		{1, 10, "", []byte{1, 0}},
		{1, 10, "hello", []byte{0x54, 0xa9}},
		{1, 32, "hello", []byte{0xcd, 0x64, 0x32, 0x9b}},
	} {
		if got := bitsOf(filterOf(t, c.n, c.bits, []byte(c.key))); !bytes.Equal(got, c.want) {
			t.Errorf("the bits of %q in New(%d, %d): %x, want %x", c.key, c.n, c.bits, got, c.want)
		}
	}
}

// P8.1: what was added twice, or in another order, is the same.
func TestAddAgain(t *testing.T) {
	keys := newSource(6).keys(50)
	f := filterOf(t, 50, 10, keys...)
	want := f.Bytes()
	for _, k := range keys {
		f.Add(k)
	}
	if !bytes.Equal(f.Bytes(), want) {
		t.Error("adding again changed the filter")
	}
	slices.Reverse(keys)
	if got := filterOf(t, 50, 10, keys...).Bytes(); !bytes.Equal(got, want) {
		t.Error("the order of what is added tells")
	}
}

// P8.1: more keys than the filter was made for are added as well.
func TestAddMore(t *testing.T) {
	keys := newSource(7).keys(200)
	for _, n := range []int{0, 1} {
		f := filterOf(t, n, 10, keys...)
		want := make([]int, f.Size())
		for i := range want {
			want[i] = i
		}
		wantBits(t, f, want)
		wantMay(t, f, []byte("never added"), true)
	}
}

// P8.1: May is whether all places are set, of keys that were added and that were not.
func TestMayByPlaces(t *testing.T) {
	source := newSource(8)
	yes, no := 0, 0
	for range 200 {
		n, bits := source.below(20), 1+source.below(32)
		f := filterOf(t, n, bits, source.keys(1+source.below(2*n+2))...)
		set := setBits(bitsOf(f))
		before := f.Bytes()
		for _, k := range source.keys(50) {
			want := !slices.ContainsFunc(slowPlaces(k, hashesOf(bits), f.Size()), func(at int) bool { return !slices.Contains(set, at) })
			wantMay(t, f, k, want)
			if want {
				yes++
			} else {
				no++
			}
		}
		if !bytes.Equal(f.Bytes(), before) {
			t.Fatal("May changed the filter")
		}
	}
	if yes < 500 || no < 500 {
		t.Errorf("May was to be true %d times and false %d times: too few to tell", yes, no)
	}
}

// P8.1: a filter to which nothing was added.
func TestMayOfNothingAdded(t *testing.T) {
	source := newSource(9)
	for bits := 1; bits <= 32; bits++ {
		for _, n := range []int{0, 1, 50} {
			f := newFilter(t, n, bits)
			wantMay(t, f, nil, false)
			wantMay(t, f, []byte{}, false)
			for _, k := range source.keys(20) {
				wantMay(t, f, k, false)
			}
		}
	}
}

// P8.3
func TestMayOfAllAdded(t *testing.T) {
	source := newSource(10)
	for _, n := range []int{0, 1, 2, 10, 100, 1000} {
		for bits := 1; bits <= 32; bits++ {
			keys := append(source.keys(n), nil, []byte{0}, source.bytes(5000))
			f := newFilter(t, n, bits)
			for i, k := range keys {
				f.Add(k)
				wantMay(t, f, k, true)
				wantMay(t, f, keys[source.below(i+1)], true)
			}
			for _, k := range keys {
				wantMay(t, f, k, true)
			}
		}
	}
}

// P8.3: the greatest filter, as many keys added as it was made for.
func TestMayOfTheGreatest(t *testing.T) {
	keys := newSource(11).keys(100000)
	f := filterOf(t, 100000, 32, keys...)
	for _, k := range keys {
		wantMay(t, f, k, true)
	}
	wantMay(t, f, []byte("a key that is not there"), false)
}

// P8.2 and R5
func TestNotMade(t *testing.T) {
	for _, f := range []*bloom.Filter{nil, {}, new(bloom.Filter), bloom.New(-1, 1), bloom.New(1, 33)} {
		for _, k := range [][]byte{nil, {}, []byte("a")} {
			f.Add(k)
			wantMay(t, f, k, false)
			if got := f.Places(k); len(got) != 0 {
				t.Errorf("Places: %v", got)
			}
		}
		if f.Size() != 0 || len(f.Bytes()) != 0 {
			t.Errorf("Size %d, Bytes %v", f.Size(), f.Bytes())
		}
	}
	var zero bloom.Filter
	zero.Add([]byte("a"))
	if zero.May([]byte("a")) || zero.Size() != 0 || len(zero.Bytes()) != 0 || len(zero.Places([]byte("a"))) != 0 {
		t.Error("a zero filter was changed")
	}
}
