package bloom_test

import (
	"bytes"
	"testing"

	"skerry/bloom"
)

// spoil changes a list and the room behind its end.
func spoil(b []byte) {
	b = b[:cap(b)]
	for i := range b {
		b[i] ^= 255
	}
}

// withRoom: a list behind whose end there is more, and all of it.
func withRoom(b []byte) (list, all []byte) {
	all = append(append([]byte("ahead"), b...), "behind"...)
	return all[5 : 5+len(b)], all
}

// R3: neither a key nor the room behind its end is changed, looked at or kept.
func TestKeyMemory(t *testing.T) {
	source := newSource(31)
	for n := range 40 {
		content := source.bytes(n)
		want := filterOf(t, 10, 10, content).Bytes()
		k, all := withRoom(content)
		before := bytes.Clone(all)
		f := filterOf(t, 10, 10, k)
		wantMay(t, f, k, true)
		wantPlaces(t, f, k, slowPlaces(content, 7, 104))
		if !bytes.Equal(all, before) {
			t.Fatalf("a key of %d bytes was changed", n)
		}
		spoil(all)
		wantMay(t, f, content, true)
		if !bytes.Equal(f.Bytes(), want) {
			t.Fatalf("a key of %d bytes is kept", n)
		}
	}
}

// R3: what Read was given is not changed by it, nor by what is added later.
func TestReadMemory(t *testing.T) {
	content := filterOf(t, 10, 10, []byte("a"), []byte("b")).Bytes()
	b, all := withRoom(content)
	before := bytes.Clone(all)
	f := read(t, b)
	other := read(t, b)
	for _, k := range newSource(32).keys(20) {
		f.Add(k)
	}
	if !bytes.Equal(all, before) {
		t.Error("Read's argument was changed")
	}
	if !bytes.Equal(other.Bytes(), content) {
		t.Error("two filters that were read of the same bytes share them")
	}
	spoil(all)
	if !bytes.Equal(other.Bytes(), content) {
		t.Error("Read keeps its argument")
	}
	wantMay(t, other, []byte("a"), true)
}

// R3: a caller may change what Bytes and Places told, and their spare room.
func TestAnswerMemory(t *testing.T) {
	for _, n := range []int{0, 1, 10, 1000} {
		f := filterOf(t, n, 10, []byte("a"))
		want := bytes.Clone(f.Bytes())
		first, second := f.Bytes(), f.Bytes()
		spoil(first)
		if !bytes.Equal(second, want) || !bytes.Equal(f.Bytes(), want) {
			t.Errorf("Bytes of New(%d, 10) share memory", n)
		}
		f.Add([]byte("b"))
		if !bytes.Equal(second, want) {
			t.Errorf("what Bytes of New(%d, 10) told was changed by Add", n)
		}
		places, others := f.Places([]byte("a")), f.Places([]byte("a"))
		places = places[:cap(places)]
		for i := range places {
			places[i] = -1
		}
		wantPlaces(t, f, []byte("a"), others)
		wantPlaces(t, f, []byte("a"), slowPlaces([]byte("a"), 7, f.Size()))
		wantMay(t, f, []byte("a"), true)
	}
}

// R3 and R4: no two filters share bits.
func TestFiltersApart(t *testing.T) {
	first, second := newFilter(t, 5, 10), newFilter(t, 5, 10)
	first.Add([]byte("a"))
	wantMay(t, second, []byte("a"), false)
	wantBits(t, second, nil)
	third := bloom.New(5, 10)
	third.Add([]byte("a"))
	if !bytes.Equal(third.Bytes(), first.Bytes()) {
		t.Error("two filters to which the same was added are unlike")
	}
}
