package manifest_test

import (
	"bytes"
	"encoding/binary"
	"encoding/hex"
	"fmt"
	"hash/crc32"
	"math"
	"math/rand/v2"
	"slices"
	"testing"

	"skerry/api"
	"skerry/manifest"
)

// framed: a frame by the library's sum, whatever its content is.
func framed(content []byte) []byte {
	count := binary.BigEndian.AppendUint32(nil, uint32(len(content)))
	sum := crc32.ChecksumIEEE(slices.Concat(count, content))
	return append(binary.BigEndian.AppendUint32(count, sum), content...)
}

// content: numbers, one behind the other.
func content(numbers ...uint64) []byte {
	var b []byte
	for _, u := range numbers {
		b = binary.AppendUvarint(b, u)
	}
	return b
}

// slowContent: what stands in the frame, be m good or not.
func slowContent(m manifest.Manifest) []byte {
	b := content(uint64(m.Next), uint64(m.From), uint64(len(m.Tables)))
	for _, n := range m.Tables {
		b = append(b, content(uint64(n))...)
	}
	return b
}

func slowBytes(m manifest.Manifest) []byte { return framed(slowContent(m)) }

// slowNumbers: all that stand in bytes; false, if they are not just numbers, each as short as may be.
func slowNumbers(b []byte) ([]uint64, bool) {
	var numbers []uint64
	for len(b) > 0 {
		u, n := binary.Uvarint(b)
		if n <= 0 || len(content(u)) != n {
			return nil, false
		}
		numbers = append(numbers, u)
		b = b[n:]
	}
	return numbers, true
}

// slowRead goes by the numbers that stand in the content.
func slowRead(inFrame []byte) (manifest.Manifest, bool) {
	numbers, ok := slowNumbers(inFrame)
	if !ok || len(numbers) < 3 || numbers[2] != uint64(len(numbers)-3) {
		return manifest.Manifest{}, false
	}
	if slices.Max(numbers) > math.MaxInt {
		return manifest.Manifest{}, false
	}
	m := of(int(numbers[0]), int(numbers[1]))
	for _, u := range numbers[3:] {
		m.Tables = append(m.Tables, int(u))
	}
	if !slowGood(m) {
		return manifest.Manifest{}, false
	}
	return m, true
}

func wantBytes(t *testing.T, m manifest.Manifest, wanted []byte) {
	t.Helper()
	if got, e := manifest.Bytes(m); e != api.OK || !bytes.Equal(got, wanted) {
		t.Fatalf("Bytes(%v): %x, %v; want %x", m, got, e, wanted)
	}
}

func wantRead(t *testing.T, b []byte, wanted manifest.Manifest) {
	t.Helper()
	if got, e := manifest.Read(b); e != api.OK || !same(got, wanted) {
		t.Fatalf("Read(%x): %v, %v; want %v", b, got, e, wanted)
	}
}

func wantCorrupt(t *testing.T, b []byte) {
	t.Helper()
	if got, e := manifest.Read(b); e != api.ErrCorrupt || !same(got, manifest.Manifest{}) {
		t.Fatalf("Read(%x): %v, %v; want nothing, %v", b, got, e, api.ErrCorrupt)
	}
}

// P13.2: bytes that another program told.
func TestKnownBytes(t *testing.T) {
	for _, c := range []struct {
		m     manifest.Manifest
		bytes string
	}{
		{manifest.Begin(), "0000000397002be6010100"},
		{of(2, 3, 1), "0000000456f10eac02030101"},
		{of(3, 1, 2, 1), "000000050f6d1ed20301020201"},
		{of(top, top), "0000000b927dcef3ff93ebdc03ff93ebdc0300"},
		{of(top, 300, top-1, 1), "0000000e7ce19dceff93ebdc03ac0202fe93ebdc0301"},
	} {
		b, err := hex.DecodeString(c.bytes)
		if err != nil {
			t.Fatal(err)
		}
		wantBytes(t, c.m, b)
		wantRead(t, b, c.m)
	}
}

// P13.2: each undoes the other; the tables stay in their order.
func TestBytesAndRead(t *testing.T) {
	for _, m := range goodOnes() {
		wantBytes(t, m, slowBytes(m))
		wantRead(t, slowBytes(m), m)
	}
	wantBytes(t, manifest.Manifest{Tables: []int{}, Next: 4, From: 5}, framed([]byte{4, 5, 0}))
}

// P13.2, and the second example of the chapter.
func TestBytesOfBadOnes(t *testing.T) {
	for _, m := range append(badOnes(), of(3, 1, 1, 1)) {
		if b, e := manifest.Bytes(m); e != api.ErrArg || len(b) != 0 {
			t.Errorf("Bytes(%v): %x, %v; want nothing, %v", m, b, e, api.ErrArg)
		}
	}
}

// P13.2: a manifest that is not good is none, though its frame is sound.
func TestReadOfBadOnes(t *testing.T) {
	for _, m := range badOnes() {
		wantCorrupt(t, slowBytes(m))
	}
}

// P13.2: a beginning of the bytes, and none at all.
func TestReadOfCutBytes(t *testing.T) {
	wantCorrupt(t, nil)
	wantCorrupt(t, []byte{})
	for _, m := range goodOnes() {
		b := slowBytes(m)
		for n := range b {
			wantCorrupt(t, b[:n])
			wantCorrupt(t, b[n+1:])
		}
		inFrame := slowContent(m)
		for n := range inFrame {
			wantCorrupt(t, framed(inFrame[:n]))
		}
	}
}

// P13.2: more bytes behind the frame, and within it.
func TestReadOfMoreBytes(t *testing.T) {
	for _, m := range goodOnes() {
		for _, more := range [][]byte{{0}, {1}, {128}, {255}, {0, 0, 0, 0}, slowBytes(m), make([]byte, 1000)} {
			wantCorrupt(t, slices.Concat(slowBytes(m), more))
			wantCorrupt(t, slices.Concat(more[:1], slowBytes(m)))
			wantCorrupt(t, framed(slices.Concat(slowContent(m), more)))
		}
	}
}

// P13.2: any bit that is turned.
func TestReadOfTurnedBits(t *testing.T) {
	for _, m := range goodOnes() {
		b := slowBytes(m)
		for i := range 8 * len(b) {
			b[i/8] ^= 1 << (i % 8)
			wantCorrupt(t, b)
			b[i/8] ^= 1 << (i % 8)
		}
		wantRead(t, b, m)
	}
}

// P13.2: in a sound frame any bit that is turned makes another manifest, or none.
func TestReadOfTurnedBitsInFrame(t *testing.T) {
	others := 0
	for _, m := range goodOnes() {
		b := slowContent(m)
		for i := range 8 * len(b) {
			b[i/8] ^= 1 << (i % 8)
			if other, ok := slowRead(b); ok {
				others++
				wantRead(t, framed(b), other)
			} else {
				wantCorrupt(t, framed(b))
			}
			b[i/8] ^= 1 << (i % 8)
		}
	}
	if others < 100 {
		t.Errorf("only %d others", others)
	}
}

// longer: the same numbers, of which one is written with a digit more than it needs.
func longer(numbers []uint64, which int) []byte {
	b := content(numbers[:which]...)
	b = append(b, content(numbers[which])...)
	b[len(b)-1] += 128
	return slices.Concat(b, []byte{0}, content(numbers[which+1:]...))
}

// P13.2: numbers that are not the shortest.
func TestReadOfLongNumbers(t *testing.T) {
	for _, m := range goodOnes() {
		numbers, _ := slowNumbers(slowContent(m))
		for i := range numbers {
			wantCorrupt(t, framed(longer(numbers, i)))
		}
	}
}

// P13.2: numbers at the ends of 64 bits, at each place.
func TestReadOfGreatNumbers(t *testing.T) {
	for _, m := range []manifest.Manifest{of(1, 1), of(9, 5, 2, 8, 4), of(top, top, run(1, 30)...)} {
		numbers, _ := slowNumbers(slowContent(m))
		for i, had := range numbers {
			for _, add := range []uint64{1 << 30, 1 << 31, 1 << 32, 1 << 33, 1 << 62, 1 << 63, 1<<63 + 1<<32} {
				numbers[i] = had + add
				wantCorrupt(t, framed(content(numbers...)))
			}
			for _, u := range []uint64{0, math.MaxInt, math.MaxInt + 1, math.MaxUint64 - 1, math.MaxUint64} {
				numbers[i] = u
				if other, ok := slowRead(content(numbers...)); ok {
					wantRead(t, framed(content(numbers...)), other)
				} else {
					wantCorrupt(t, framed(content(numbers...)))
				}
			}
			numbers[i] = had
			// Eleven digits, and ten of which the last is too great.
			whole := content(numbers[:i]...)
			for _, last := range [][]byte{{255, 1}, {2}, {127}} {
				none := slices.Concat(whole, bytes.Repeat([]byte{255}, 9), last, content(numbers[i+1:]...))
				wantCorrupt(t, framed(none))
			}
		}
	}
}

// P13.2: a count of tables that is not how many there are.
func TestReadOfWrongCounts(t *testing.T) {
	for _, m := range goodOnes() {
		numbers, _ := slowNumbers(slowContent(m))
		for _, count := range []uint64{0, 1, 2, 3, 29, 30, 31, 32, 1000, 1 << 32, 1 << 63, math.MaxUint64} {
			numbers[2] = count
			if count == uint64(len(m.Tables)) {
				wantRead(t, framed(content(numbers...)), m)
			} else {
				wantCorrupt(t, framed(content(numbers...)))
			}
		}
	}
}

// P13.2: 30 tables, and 31.
func TestReadOfManyTables(t *testing.T) {
	for n := range 40 {
		m := of(1000, 7, run(1, n)...)
		if n <= 30 {
			wantRead(t, slowBytes(m), m)
		} else {
			wantCorrupt(t, slowBytes(m))
		}
	}
	wantCorrupt(t, slowBytes(of(top, 1, run(1, 50000)...)))
}

// P13.2: frames of nothing, of the greatest count, and above it.
func TestReadOfStrangeFrames(t *testing.T) {
	wantCorrupt(t, framed(nil))
	for _, n := range []int{1, 2, 3, 4, 100, api.MaxFrame - 1, api.MaxFrame, api.MaxFrame + 1} {
		for _, x := range []byte{0, 1, 2, 128, 255} {
			wantCorrupt(t, framed(bytes.Repeat([]byte{x}, n)))
			wantCorrupt(t, bytes.Repeat([]byte{x}, n))
		}
	}
}

// P13.2: all contents of up to six of a few bytes, against a slow form.
func TestReadOfAllContents(t *testing.T) {
	found := 0
	for _, w := range words(6, 0, 1, 2, 3, 5, 127, 129, 255) {
		b := make([]byte, len(w))
		for i, n := range w {
			b[i] = byte(n)
		}
		m, ok := slowRead(b)
		if ok {
			found++
			wantRead(t, framed(b), m)
		} else {
			wantCorrupt(t, framed(b))
		}
	}
	if found < 1000 {
		t.Errorf("only %d manifests", found)
	}
}

// some: a manifest by a source, good.
func some(r *rand.Rand) manifest.Manifest {
	next := 1 + r.IntN([]int{3, 40, 300, 100000, top}[r.IntN(5)])
	m := of(next, 1+r.IntN(top))
	for range r.IntN(40) {
		n := 1 + r.IntN(next)
		if n < next && len(m.Tables) < 30 && !slices.Contains(m.Tables, n) {
			m.Tables = append(m.Tables, n)
		}
	}
	return m
}

// P13.2: many manifests, and what becomes of them when a byte is another.
func TestManyBytes(t *testing.T) {
	r := rand.New(rand.NewPCG(13, 2))
	for range 3000 {
		m := some(r)
		want(t, "Good", manifest.Good(m), true)
		wantBytes(t, m, slowBytes(m))
		wantRead(t, slowBytes(m), m)
		b := slowContent(m)
		b[r.IntN(len(b))] = byte(r.Uint32())
		if other, ok := slowRead(b); ok {
			wantRead(t, framed(b), other)
		} else {
			wantCorrupt(t, framed(b))
		}
	}
}

// P1: any bytes, and any beginning of a frame.
func FuzzRead(f *testing.F) {
	for _, m := range goodOnes() {
		f.Add(slowContent(m))
		f.Add(slowBytes(m))
	}
	f.Fuzz(func(t *testing.T, b []byte) {
		if len(b) > api.MaxFrame {
			return
		}
		if m, ok := slowRead(b); ok {
			wantRead(t, framed(b), m)
		} else {
			wantCorrupt(t, framed(b))
		}
		m, e := manifest.Read(b)
		if e == api.OK {
			wantBytes(t, m, b)
		} else {
			want(t, fmt.Sprintf("Read(%x)", b), e, api.ErrCorrupt)
		}
	})
}
