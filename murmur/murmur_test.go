package murmur_test

import (
	"bytes"
	"encoding/binary"
	"math"
	"math/big"
	"strings"
	"testing"

	"skerry/murmur"
)

const fox = "The quick brown fox jumps over the lazy dog"

// source tells the same numbers each time (SplitMix64), so that a test that failed fails again.
type source struct {
	state uint64
}

func newSource(seed uint64) *source {
	return &source{state: seed}
}

func (s *source) next() uint64 {
	s.state += 0x9e3779b97f4a7c15
	z := s.state
	z = (z ^ z>>30) * 0xbf58476d1ce4e5b9
	z = (z ^ z>>27) * 0x94d049bb133111eb
	return z ^ z>>31
}

func (s *source) bytes(n int) []byte {
	b := make([]byte, n)
	for i := range b {
		b[i] = byte(s.next())
	}
	return b
}

// edgeNumbers: the ends of 64 bits, each bit alone, all but one, and the numbers beside those.
func edgeNumbers() []uint64 {
	l := []uint64{0, math.MaxUint64}
	for i := range 64 {
		bit := uint64(1) << i
		l = append(l, bit, bit-1, bit+1, ^bit)
	}
	return l
}

// modulo, turned, times and plus reckon by whole numbers of any size, so that they share no arithmetic with the program.
func modulo(n *big.Int) *big.Int {
	return n.Mod(n, new(big.Int).Lsh(big.NewInt(1), 64))
}

func number(u uint64) *big.Int {
	return new(big.Int).SetUint64(u)
}

func times(n *big.Int, u uint64) *big.Int {
	return modulo(new(big.Int).Mul(n, number(u)))
}

func plus(n, m *big.Int) *big.Int {
	return modulo(new(big.Int).Add(n, m))
}

func turned(n *big.Int, r uint) *big.Int {
	low := modulo(new(big.Int).Lsh(n, r))
	return low.Or(low, new(big.Int).Rsh(n, 64-r))
}

func xor(n, m *big.Int) *big.Int {
	return new(big.Int).Xor(n, m)
}

func slowMix(k *big.Int) *big.Int {
	k = xor(k, new(big.Int).Rsh(k, 33))
	k = times(k, 0xff51afd7ed558ccd)
	k = xor(k, new(big.Int).Rsh(k, 33))
	k = times(k, 0xc4ceb9fe1a85ec53)
	return xor(k, new(big.Int).Rsh(k, 33))
}

// slowWords: a block's K1 and K2, scrambled; fewer bytes than a block has are filled with noughts.
func slowWords(b []byte) (*big.Int, *big.Int) {
	highFirst := make([]byte, 16)
	for i, x := range b {
		highFirst[15-i] = x
	}
	k1, k2 := new(big.Int).SetBytes(highFirst[8:]), new(big.Int).SetBytes(highFirst[:8])
	k1 = times(turned(times(k1, 0x87c37b91114253d5), 31), 0x4cf5ad432745937f)
	k2 = times(turned(times(k2, 0x4cf5ad432745937f), 33), 0x87c37b91114253d5)
	return k1, k2
}

// slowSum follows the document's words one by one.
func slowSum(b []byte, seed uint64) (uint64, uint64) {
	h1, h2 := number(seed), number(seed)
	whole := len(b) / 16
	for i := range whole {
		k1, k2 := slowWords(b[16*i : 16*i+16])
		h1 = xor(h1, k1)
		h1 = plus(turned(h1, 27), h2)
		h1 = plus(times(h1, 5), number(0x52dce729))
		h2 = xor(h2, k2)
		h2 = plus(turned(h2, 31), h1)
		h2 = plus(times(h2, 5), number(0x38495ab5))
	}
	rest := b[16*whole:]
	k1, k2 := slowWords(rest)
	if len(rest) > 8 {
		h2 = xor(h2, k2)
	}
	if len(rest) > 0 {
		h1 = xor(h1, k1)
	}
	count := number(uint64(len(b)))
	h1, h2 = xor(h1, count), xor(h2, count)
	h1 = plus(h1, h2)
	h2 = plus(h2, h1)
	h1, h2 = slowMix(h1), slowMix(h2)
	h1 = plus(h1, h2)
	h2 = plus(h2, h1)
	return h1.Uint64(), h2.Uint64()
}

func wantSum(t *testing.T, b []byte, seed, want1, want2 uint64) {
	t.Helper()
	if h1, h2 := murmur.Sum(b, seed); h1 != want1 || h2 != want2 {
		t.Errorf("Sum(%q, %#x): %016x %016x, want %016x %016x", b, seed, h1, h2, want1, want2)
	}
}

// unmix undoes Mix: a step of xor with a shift of 33 undoes itself, and an odd factor has an inverse modulo 2^64.
func unmix(k uint64) uint64 {
	k ^= k >> 33
	k *= inverse(0xc4ceb9fe1a85ec53)
	k ^= k >> 33
	k *= inverse(0xff51afd7ed558ccd)
	return k ^ k>>33
}

func inverse(factor uint64) uint64 {
	x := factor
	for range 6 {
		x *= 2 - factor*x
	}
	return x
}

// P2.1
func TestMixKnown(t *testing.T) {
	for _, c := range []struct{ k, want uint64 }{
		{0, 0},
		{1, 0xb456bcfc34c2cb2c},
	} {
		if got := murmur.Mix(c.k); got != c.want {
			t.Errorf("Mix(%#x): %#x, want %#x", c.k, got, c.want)
		}
	}
}

// P2.1
func TestMixByWords(t *testing.T) {
	l := edgeNumbers()
	source := newSource(1)
	for range 5000 {
		l = append(l, source.next())
	}
	for _, k := range l {
		if got, want := murmur.Mix(k), slowMix(number(k)).Uint64(); got != want {
			t.Errorf("Mix(%#x): %#x, want %#x", k, got, want)
		}
	}
}

// P2.4: what can be undone takes no two numbers to one.
func TestMixIsUndone(t *testing.T) {
	l := edgeNumbers()
	source := newSource(2)
	for range 100000 {
		l = append(l, source.next())
	}
	for _, k := range l {
		if got := unmix(murmur.Mix(k)); got != k {
			t.Errorf("what Mix makes of %#x is undone to %#x", k, got)
		}
		if got := murmur.Mix(unmix(k)); got != k {
			t.Errorf("Mix of what %#x is made of: %#x", k, got)
		}
	}
}

// P2.4
func TestMixUnlike(t *testing.T) {
	of := map[uint64]uint64{}
	look := func(k uint64) {
		mixed := murmur.Mix(k)
		if other, ok := of[mixed]; ok && other != k {
			t.Errorf("Mix of %#x and of %#x is %#x", k, other, mixed)
		}
		of[mixed] = k
	}
	for k := range uint64(100000) {
		look(k)
		look(^k)
		look(k << 33)
	}
	for _, k := range edgeNumbers() {
		look(k)
	}
}

// P2.2: what others reckon by the same algorithm, with and without whole blocks and rests.
func TestSumKnown(t *testing.T) {
	for _, c := range []struct {
		text         string
		seed         uint64
		want1, want2 uint64
	}{
		{"", 0, 0, 0},
		{"", 1, 0x4610abe56eff5cb5, 0x51622daa78f83583},
		{"hello", 0, 0xcbd8a7b341bd9b02, 0x5b1e906a48ae1d19},
		{"hello", 1, 0xa78ddff5adae8d10, 0x128900ef20900135},
		{"hello, world", 0, 0x342fac623a5ebc8e, 0x4cdcbc079642414d},
		{"19 Jan 2038 at 3:14:07 AM", 0, 0xb89e5988b737affc, 0x664fc2950231b2cb},
		{fox, 0, 0xe34bbc7bbc071b6c, 0x7a433ca9c49a9347},
		{fox + ".", 0, 0xcd99481f9ee902c9, 0x695da1a38987b6e7},
	} {
		wantSum(t, []byte(c.text), c.seed, c.want1, c.want2)
	}
	wantSum(t, []byte{}, 0, 0, 0)
	wantSum(t, nil, 0, 0, 0)
}

// P2.2: the algorithm's own check (SMHasher's): the sum of the sums of 256 lists, each of another length with another seed, begins with a known number.
func TestSumVerification(t *testing.T) {
	var list, sums []byte
	for i := range 256 {
		h1, h2 := murmur.Sum(list, uint64(256-i))
		sums = binary.LittleEndian.AppendUint64(sums, h1)
		sums = binary.LittleEndian.AppendUint64(sums, h2)
		list = append(list, byte(i))
	}
	if h1, _ := murmur.Sum(sums, 0); uint32(h1) != 0x6384ba69 {
		t.Errorf("the sum of sums begins with %#x, want 0x6384ba69", uint32(h1))
	}
}

// P2.2: no bytes, fewer than 8, 8, 9, 15, 16, 17 and more, at seeds of 64 bits.
func TestSumLengths(t *testing.T) {
	source := newSource(3)
	for n := range 100 {
		for _, b := range [][]byte{
			make([]byte, n),
			bytes.Repeat([]byte{1}, n),
			bytes.Repeat([]byte{128}, n),
			bytes.Repeat([]byte{255}, n),
			source.bytes(n),
		} {
			for _, seed := range []uint64{0, 1, math.MaxUint32, 1 << 32, math.MaxInt64, 1 << 63, math.MaxUint64 - 1, math.MaxUint64, source.next()} {
				want1, want2 := slowSum(b, seed)
				wantSum(t, b, seed, want1, want2)
			}
		}
	}
}

// P2.2: each byte tells, in each place of a block and of a rest.
func TestSumPlaces(t *testing.T) {
	for n := range 50 {
		for at := range n {
			for _, x := range []byte{1, 128, 255} {
				b := make([]byte, n)
				b[at] = x
				want1, want2 := slowSum(b, 7)
				wantSum(t, b, 7, want1, want2)
			}
		}
	}
}

// P2.2: seeds at their ends, and each bit of one alone.
func TestSumSeeds(t *testing.T) {
	for _, seed := range edgeNumbers() {
		for _, text := range []string{"", "a", fox[:8], fox[:9], fox[:16], fox} {
			want1, want2 := slowSum([]byte(text), seed)
			wantSum(t, []byte(text), seed, want1, want2)
		}
	}
}

// P2.2: the count is more than a byte, or two, can tell.
func TestSumLong(t *testing.T) {
	source := newSource(4)
	for _, n := range []int{255, 256, 257, 4096, 65535, 65536, 65537, 65552, 100003} {
		b := source.bytes(n)
		seed := source.next()
		want1, want2 := slowSum(b, seed)
		if h1, h2 := murmur.Sum(b, seed); h1 != want1 || h2 != want2 {
			t.Errorf("Sum of %d bytes: %016x %016x, want %016x %016x", n, h1, h2, want1, want2)
		}
	}
}

// P2.2: noughts at the end are not the noughts that a rest is filled with.
func TestSumNoughts(t *testing.T) {
	lengths := map[[2]uint64]int{}
	for n := range 200 {
		h1, h2 := murmur.Sum(make([]byte, n), 0)
		if other, ok := lengths[[2]uint64{h1, h2}]; ok {
			t.Errorf("%d noughts and %d have one sum", n, other)
		}
		lengths[[2]uint64{h1, h2}] = n
	}
}

// R3 and R4: an argument is left as it was, what lies behind its end is not looked at, and the same bytes have one sum wherever they lie.
func TestSumMemory(t *testing.T) {
	source := newSource(5)
	for n := range 50 {
		content := source.bytes(n)
		want1, want2 := slowSum(content, 9)
		for ahead := range 9 {
			room := append(append(source.bytes(ahead), content...), source.bytes(20)...)
			before := bytes.Clone(room)
			wantSum(t, room[ahead:ahead+n], 9, want1, want2)
			wantSum(t, room[ahead:ahead+n], 9, want1, want2)
			if !bytes.Equal(room, before) {
				t.Errorf("Sum of %d bytes changed %d to %d", n, before, room)
			}
		}
		wantSum(t, content, 9, want1, want2)
	}
}

// P2.3
func TestTokenKnown(t *testing.T) {
	for _, c := range []struct {
		part  string
		first uint64
	}{
		{"", 0},
		{"hello", 0xcbd8a7b341bd9b02},
		{"hello, world", 0x342fac623a5ebc8e},
		{fox, 0xe34bbc7bbc071b6c},
	} {
		want := int(int64(c.first))
		if got := murmur.Token(c.part); got != want {
			t.Errorf("Token(%q): %d, want %d", c.part, got, want)
		}
	}
	if murmur.Token("hello") != -3758069500696749310 {
		t.Errorf("Token(hello): %d, want -3758069500696749310", murmur.Token("hello"))
	}
}

// P2.3: partitions of all lengths, of bytes that are no runes as well; a half above the greatest int is a token below 0.
func TestTokenIsFirstHalf(t *testing.T) {
	source := newSource(6)
	parts := []string{"\x00", "\xff", "é", "日本語", strings.Repeat("\xff", 64), strings.Repeat("p", 65)}
	for n := range 2000 {
		parts = append(parts, string(source.bytes(n%80)))
	}
	above, below := 0, 0
	for _, part := range parts {
		first, _ := slowSum([]byte(part), 0)
		got := murmur.Token(part)
		if uint64(got) != first || (got < 0) != (first > math.MaxInt) {
			t.Errorf("Token(%q): %d, want %#x as an int", part, got, first)
		}
		if got < 0 {
			below++
		} else {
			above++
		}
	}
	if above < 100 || below < 100 {
		t.Errorf("%d tokens are below 0 and %d are not: the parts show too few of a kind", below, above)
	}
}

// R1: a large argument ends as well.
func TestSumLarge(t *testing.T) {
	b := make([]byte, 1<<24+5)
	b[len(b)-1] = 1
	with1, with2 := murmur.Sum(b, 0)
	b[len(b)-1] = 0
	without1, without2 := murmur.Sum(b, 0)
	if with1 == without1 && with2 == without2 {
		t.Error("the last byte of many does not tell")
	}
}
