package manifest_test

import (
	"bytes"
	"slices"
	"testing"

	"skerry/api"
	"skerry/disk"
	"skerry/manifest"
)

// spoil changes a list and the room behind its end.
func spoil(l []int) {
	l = l[:cap(l)]
	for i := range l {
		l[i] = -77
	}
}

func spoilBytes(b []byte) {
	b = b[:cap(b)]
	for i := range b {
		b[i] ^= 255
	}
}

// R3: a manifest is neither changed nor kept, and the room behind its tables is neither changed nor looked at.
func TestManifestStays(t *testing.T) {
	for _, m := range slices.Concat(goodOnes(), badOnes()) {
		for _, behind := range [][]int{{1, 1, 1}, {-3, 0, top}, run(1, 40)} {
			whole := slices.Concat(m.Tables, behind)
			before := slices.Clone(whole)
			given := of(m.Next, m.From, whole[:len(m.Tables)]...)
			d := disk.New(1000)
			good := manifest.Good(given)
			b, e := manifest.Bytes(given)
			stored := manifest.Store(d, given)
			if !slices.Equal(whole, before) {
				t.Fatalf("%v: the argument is %v", before, whole)
			}
			want(t, "Good", good, slowGood(m))
			want(t, "Store", stored, e)
			spoil(whole)
			if good {
				wantLoad(t, d, m)
				want(t, "Bytes", string(b), string(slowBytes(m)))
			}
		}
	}
}

// R3: bytes are neither changed nor kept, and the room behind their end is neither changed nor looked at.
func TestBytesStay(t *testing.T) {
	for _, m := range goodOnes() {
		b := slowBytes(m)
		for n := range len(b) + 1 {
			whole := slices.Concat(b, []byte{0, 1, 2, 128, 255})
			before := bytes.Clone(whole)
			got, e := manifest.Read(whole[:n])
			if !bytes.Equal(whole, before) {
				t.Fatalf("Read changed its argument %x to %x", before, whole)
			}
			spoilBytes(whole)
			if n < len(b) {
				want(t, "Read", e, api.ErrCorrupt)
			} else if !same(got, m) {
				t.Fatalf("%v behind a change of the bytes; want %v", got, m)
			}
		}
	}
}

// R3: an answer shares nothing with another one, nor with its argument.
func TestAnswersAreNew(t *testing.T) {
	for _, m := range goodOnes() {
		wanted := of(m.Next, m.From, slices.Clone(m.Tables)...)
		b := slowBytes(wanted)

		first, _ := manifest.Bytes(m)
		second, _ := manifest.Bytes(m)
		spoilBytes(first)
		want(t, "Bytes", string(second), string(b))
		wantBytes(t, m, b)

		one, _ := manifest.Read(b)
		two, _ := manifest.Read(b)
		spoil(one.Tables)
		if !same(two, wanted) || !bytes.Equal(b, slowBytes(wanted)) {
			t.Fatalf("%v behind a change of another answer; want %v", two, wanted)
		}

		d := disk.New(1000)
		must(t, manifest.Store(d, m))
		one, _ = manifest.Load(d)
		two, _ = manifest.Load(d)
		spoil(one.Tables)
		if !same(two, wanted) || !same(m, wanted) {
			t.Fatalf("%v and %v behind a change of another answer; want %v", two, m, wanted)
		}
		wantLoad(t, d, wanted)
	}
}

// R3: what Load told stays as it was when another manifest is stored.
func TestLoadedStays(t *testing.T) {
	d := disk.New(1000)
	must(t, manifest.Store(d, of(9, 5, 2, 8)))
	told, _ := manifest.Load(d)
	must(t, manifest.Store(d, of(4, 6, 3)))
	if !same(told, of(9, 5, 2, 8)) {
		t.Errorf("what was told is %v", told)
	}
}

// R3: a Begin that is changed changes no other.
func TestBeginIsNew(t *testing.T) {
	m := manifest.Begin()
	m.Tables = append(m.Tables, 5, 6)
	m.Next, m.From = 7, 8
	spoil(m.Tables)
	if again := manifest.Begin(); !same(again, of(1, 1)) {
		t.Errorf("Begin: %v", again)
	}
	d := disk.New(1000)
	loaded, _ := manifest.Load(d)
	loaded.Tables = append(loaded.Tables, 5)
	loaded.Next = 6
	wantLoad(t, d, of(1, 1))
}
