package key_test

import (
	"bytes"
	"math"
	"strings"
	"testing"

	"skerry/api"
	"skerry/key"
)

func wantRead(t *testing.T, b []byte, want api.Key, wantOk bool) {
	t.Helper()
	if got, ok := key.Read(b); got != want || ok != wantOk {
		t.Fatalf("Read(%d): %#v %v, want %#v %v", b, got, ok, want, wantOk)
	}
}

// P4.2
func TestBytes(t *testing.T) {
	for _, c := range []struct {
		key  api.Key
		want []byte
	}{
		{api.Key{Table: "t", Part: "a"}, []byte{116, 0, 0, 97, 0, 0, 128, 0, 0, 0, 0, 0, 0, 0, 0, 0}},
		{api.Key{}, []byte{0, 0, 0, 0, 128, 0, 0, 0, 0, 0, 0, 0, 0, 0}},
		{api.Key{Row: 1, Column: "c"}, []byte{0, 0, 0, 0, 128, 0, 0, 0, 0, 0, 0, 1, 99, 0, 0}},
		{api.Key{Row: -1}, []byte{0, 0, 0, 0, 127, 255, 255, 255, 255, 255, 255, 255, 0, 0}},
		{api.Key{Row: math.MinInt}, []byte{0, 0, 0, 0, 0, 0, 0, 0, 0, 0, 0, 0, 0, 0}},
		{api.Key{Row: math.MaxInt}, []byte{0, 0, 0, 0, 255, 255, 255, 255, 255, 255, 255, 255, 0, 0}},
		{api.Key{Row: 0x0102030405060708}, []byte{0, 0, 0, 0, 129, 2, 3, 4, 5, 6, 7, 8, 0, 0}},
		{api.Key{Table: "\x00"}, []byte{0, 255, 0, 0, 0, 0, 128, 0, 0, 0, 0, 0, 0, 0, 0, 0}},
		{api.Key{Part: "a\x00b"}, []byte{0, 0, 97, 0, 255, 98, 0, 0, 128, 0, 0, 0, 0, 0, 0, 0, 0, 0}},
		{api.Key{Column: "\x00\x00"}, []byte{0, 0, 0, 0, 128, 0, 0, 0, 0, 0, 0, 0, 0, 255, 0, 255, 0, 0}},
		{api.Key{Column: "\x01\xfe\xff"}, []byte{0, 0, 0, 0, 128, 0, 0, 0, 0, 0, 0, 0, 1, 254, 255, 0, 0}},
	} {
		if got := key.Bytes(c.key); !bytes.Equal(got, c.want) {
			t.Errorf("Bytes(%#v): %d, want %d", c.key, got, c.want)
		}
		wantRead(t, c.want, c.key, true)
	}
}

// P4.2 and P4.3: by the words, and back; Read asks for no key that is Good.
func TestBytesAreRead(t *testing.T) {
	for _, k := range manyKeys(4, 5000) {
		b := key.Bytes(k)
		if want := slowBytes(k); !bytes.Equal(b, want) {
			t.Fatalf("Bytes(%#v): %d, want %d", k, b, want)
		}
		wantRead(t, b, k, true)
	}
}

// P4.3
func TestBytesStandInOrder(t *testing.T) {
	l := manyKeys(5, 400)
	inBytes := make([][]byte, len(l))
	for i, k := range l {
		inBytes[i] = key.Bytes(k)
	}
	for i, a := range l {
		for j, b := range l {
			if got, want := bytes.Compare(inBytes[i], inBytes[j]), slowCmp(a, b); got != want || got != key.Cmp(a, b) {
				t.Fatalf("the bytes of %#v and of %#v: %d, want %d", a, b, got, want)
			}
		}
	}
}

// P4.2: bytes that are cut short at each place are no key's, nor are those that go on.
func TestReadCutAndLong(t *testing.T) {
	for _, k := range edgeKeys() {
		b := key.Bytes(k)
		for n := range b {
			wantRead(t, b[:n], api.Key{}, false)
		}
		for x := range 256 {
			wantRead(t, append(bytes.Clone(b), byte(x)), api.Key{}, false)
		}
		wantRead(t, append(bytes.Clone(b), 0, 0), api.Key{}, false)
		wantRead(t, append(bytes.Clone(b), b...), api.Key{}, false)
	}
	wantRead(t, nil, api.Key{}, false)
	wantRead(t, []byte{}, api.Key{}, false)
}

// P4.2: a 0 that is followed by neither 0 nor 255, in each of the three texts.
func TestReadBadZero(t *testing.T) {
	ends := "\x00\x00"
	row := "\x80\x00\x00\x00\x00\x00\x00\x00"
	for x := range 256 {
		s := "a\x00" + string([]byte{byte(x)}) + "b" + ends
		for _, b := range []string{
			s + "p" + ends + row + "c" + ends,
			"t" + ends + s + row + "c" + ends,
			"t" + ends + "p" + ends + row + s,
		} {
			k, ok := slowRead([]byte(b))
			if x != 0 && ok != (x == 255) {
				t.Fatalf("the pattern tells %v of %d", ok, []byte(b))
			}
			wantRead(t, []byte(b), k, ok)
		}
	}
}

// P4.2: whatever bytes there are, Read tells what the pattern tells.
func TestReadAny(t *testing.T) {
	source := newSource(6)
	some := "\x00\x00\x00\x01\xfe\xff\xffa"
	keys := 0
	for range 20000 {
		b := []byte(source.of(some, 24))
		k, ok := slowRead(b)
		wantRead(t, b, k, ok)
		if ok {
			keys++
		}
	}
	if keys < 20 {
		t.Errorf("only %d of them are keys", keys)
	}
}

// P4.2: bytes of a key of which one is changed, put in or left out.
func TestReadChanged(t *testing.T) {
	source := newSource(7)
	for range 5000 {
		b := key.Bytes(source.key())
		at, x := source.below(len(b)), "\x00\x01\xfe\xffa"[source.below(5)]
		changed := bytes.Clone(b)
		changed[at] = x
		longer := append(append(bytes.Clone(b[:at]), x), b[at:]...)
		shorter := append(bytes.Clone(b[:at]), b[at+1:]...)
		for _, l := range [][]byte{changed, longer, shorter} {
			k, ok := slowRead(l)
			wantRead(t, l, k, ok)
		}
	}
}

// R3: what Read was given is left as it was, with what lies behind its end, and is not kept.
func TestReadMemory(t *testing.T) {
	for _, k := range edgeKeys() {
		b := key.Bytes(k)
		room := append(append([]byte("ahead"), b...), "\x00\x00behind"...)
		before := bytes.Clone(room)
		part := room[5 : 5+len(b)]
		got, ok := key.Read(part)
		if !ok || got != k {
			t.Fatalf("Read(%d): %#v %v, want %#v", part, got, ok, k)
		}
		if !bytes.Equal(room, before) {
			t.Fatalf("Read changed %d to %d", before, room)
		}
		for i := range room {
			room[i] = 'z'
		}
		if got != k {
			t.Fatalf("the key was %#v, and is %#v when the bytes have changed", k, got)
		}
	}
}

// R3: each answer of Bytes is new memory, its spare room too.
func TestBytesMemory(t *testing.T) {
	for _, k := range edgeKeys() {
		want := slowBytes(k)
		first, second := key.Bytes(k), key.Bytes(k)
		for i := range first[:cap(first)] {
			first[:cap(first)][i] = 'z'
		}
		if !bytes.Equal(second, want) || !bytes.Equal(key.Bytes(k), want) {
			t.Fatalf("the bytes of %#v share memory", k)
		}
	}
}

// R1: long texts end as well.
func TestLong(t *testing.T) {
	long := strings.Repeat("\x00/%", 1<<20)
	k := api.Key{Table: long, Part: long + "p", Row: -1, Column: long}
	wantBytes := slowBytes(k)
	if got := key.Bytes(k); !bytes.Equal(got, wantBytes) {
		t.Errorf("Bytes: %d bytes, want %d", len(got), len(wantBytes))
	}
	if got, ok := key.Read(wantBytes); !ok || got != k {
		t.Error("Read does not undo Bytes")
	}
	if _, ok := key.Read(wantBytes[:len(wantBytes)-1]); ok {
		t.Error("Read tells a key of bytes that are cut short")
	}
	if key.Good(k) || key.Cmp(k, key.Row(k)) != 1 || key.Cmp(k, k) != 0 {
		t.Error("Good or Cmp of long texts")
	}
}
