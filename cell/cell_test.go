package cell_test

import (
	"encoding/binary"
	"math"
	"math/rand/v2"
	"slices"
	"strings"
	"testing"

	"skerry/api"
	"skerry/cell"
	"skerry/key"
)

// The seeds are written out, so that a test that failed fails again.
func newSource(seed uint64) *rand.Rand {
	return rand.New(rand.NewPCG(seed, 0))
}

func edgeNumbers() []int {
	return []int{math.MinInt, -1, 0, 1, math.MaxInt}
}

func edgeTexts() []string {
	return []string{"", "\x00", "a", "a\x00", "ab", "b", "\x7f", "é", "\xff", strings.Repeat("s", api.MaxText), strings.Repeat("s", api.MaxText+1)}
}

func edgeKinds() []int {
	return []int{math.MinInt, -1, api.None, api.Int, api.Str, api.Str + 1, math.MaxInt}
}

func live(time, kind, n int, s string) api.Version {
	return api.Version{Time: time, Value: api.Value{Kind: kind, N: n, S: s}}
}

func dead(time, local int) api.Version {
	return api.Version{Time: time, Dead: true, Local: local}
}

func mark(row int, v api.Version) api.Cell {
	return api.Cell{Key: api.Key{Table: "t", Part: "p", Row: row}, Version: v}
}

func column(row int, v api.Version) api.Cell {
	return api.Cell{Key: api.Key{Table: "t", Part: "p", Row: row, Column: "c"}, Version: v}
}

func anyOf[T any](source *rand.Rand, l []T) T {
	return l[source.IntN(len(l))]
}

// anyVersion: of few numbers and texts, so that two of them are often alike, also such as may not be.
func anyVersion(source *rand.Rand) api.Version {
	v := api.Version{Time: source.IntN(3), Dead: source.IntN(3) == 0}
	if source.IntN(4) == 0 {
		v.Time = anyOf(source, edgeNumbers())
	}
	if source.IntN(2) == 0 {
		v.Local = anyOf(source, edgeNumbers())
	}
	if !v.Dead || source.IntN(2) == 0 {
		v.Value = api.Value{Kind: source.IntN(3), N: anyOf(source, edgeNumbers()), S: anyOf(source, edgeTexts())}
	}
	return v
}

// goodVersion: one of those that may be.
func goodVersion(source *rand.Rand) api.Version {
	time := anyOf(source, edgeNumbers())
	switch source.IntN(4) {
	case 0:
		return dead(time, anyOf(source, edgeNumbers()))
	case 1:
		return live(time, api.Int, anyOf(source, edgeNumbers()), "")
	case 2:
		return live(time, api.Str, 0, anyOf(source, edgeTexts()))
	}
	return live(time, api.None, 0, "")
}

func anyKey(source *rand.Rand) api.Key {
	texts := []string{"", "a", "b", "a\x00", "\xff"}
	return api.Key{Table: anyOf(source, texts[1:3]), Part: anyOf(source, texts), Row: source.IntN(3) - 1, Column: anyOf(source, texts[:3])}
}

// anyCells: of few keys, so that most of them are there many times.
func anyCells(source *rand.Rand, most int) []api.Cell {
	keys := make([]api.Key, 1+source.IntN(12))
	for i := range keys {
		keys[i] = anyKey(source)
	}
	l := make([]api.Cell, source.IntN(most+1))
	for i := range l {
		l[i] = api.Cell{Key: anyOf(source, keys), Version: anyVersion(source)}
	}
	return l
}

// spelt: bytes that stand in the order that the chapter asks of versions: with 2^63 added, a number below 0 stands ahead of the others.
func spelt(v api.Version) string {
	number := func(b []byte, n int) []byte {
		return binary.BigEndian.AppendUint64(b, uint64(n)+1<<63)
	}
	b := number(nil, v.Time)
	if v.Dead {
		return string(number(append(b, 1), v.Local))
	}
	b = number(append(b, 0), v.Value.Kind)
	return string(number(b, v.Value.N)) + v.Value.S
}

// slowNorm takes key by key, and of each of them all versions.
func slowNorm(l []api.Cell) []api.Cell {
	firsts := map[string]api.Cell{}
	for _, c := range l {
		k := string(key.Bytes(c.Key))
		if got, ok := firsts[k]; !ok || spelt(c.Version) > spelt(got.Version) {
			firsts[k] = c
		}
	}
	var keys []string
	for k := range firsts {
		keys = append(keys, k)
	}
	slices.Sort(keys)
	var out []api.Cell
	for _, k := range keys {
		out = append(out, firsts[k])
	}
	return out
}

// manyVersions: those at the edges in each field, with all else alike, and others by a source.
func manyVersions(seed uint64, n int) []api.Version {
	var l []api.Version
	for _, x := range edgeNumbers() {
		l = append(l, dead(x, 0), dead(0, x), live(x, api.Int, 0, ""), live(0, api.Int, x, ""), live(0, api.Str, x, "a"))
		l = append(l, api.Version{Local: x}, api.Version{Dead: true, Value: api.Value{N: x}})
	}
	for _, x := range edgeKinds() {
		l = append(l, live(0, x, 0, ""), api.Version{Dead: true, Value: api.Value{Kind: x}})
	}
	for _, x := range edgeTexts() {
		l = append(l, live(0, api.Str, 0, x), live(0, api.Int, 0, x), api.Version{Dead: true, Value: api.Value{S: x}})
	}
	source := newSource(seed)
	for range n {
		l = append(l, anyVersion(source))
	}
	return l
}

// P5.1
func TestGood(t *testing.T) {
	long, longer := strings.Repeat("s", api.MaxText), strings.Repeat("s", api.MaxText+1)
	keyless := column(0, live(1, api.Int, 1, ""))
	keyless.Key.Part = ""
	badTable := column(0, dead(1, 1))
	badTable.Key.Table = "T"
	badColumn := column(0, live(1, api.Int, 1, ""))
	badColumn.Key.Column = "C"
	for _, c := range []struct {
		cell api.Cell
		want bool
	}{
		{api.Cell{}, false}, {keyless, false}, {badTable, false}, {badColumn, false},

		{mark(0, dead(1, 1)), true}, {column(0, dead(1, 1)), true}, {column(0, dead(0, 0)), true},
		{column(math.MinInt, dead(math.MinInt, math.MinInt)), true}, {mark(math.MaxInt, dead(math.MaxInt, math.MaxInt)), true},
		{column(0, dead(-1, -1)), true},
		{column(0, api.Version{Dead: true, Value: api.Value{Kind: api.Int}}), false},
		{column(0, api.Version{Dead: true, Value: api.Value{Kind: api.Str}}), false},
		{mark(0, api.Version{Dead: true, Value: api.Value{N: 1}}), false},
		{mark(0, api.Version{Dead: true, Value: api.Value{S: "s"}}), false},

		{mark(0, live(1, api.None, 0, "")), true}, {column(0, live(1, api.None, 0, "")), false},
		{mark(0, live(1, api.None, 1, "")), false}, {mark(0, live(1, api.None, -1, "")), false},
		{mark(0, live(1, api.None, 0, "s")), false},
		{column(0, live(1, api.None, 1, "")), false}, {column(0, live(1, api.None, 0, "s")), false},

		{column(0, live(1, api.Int, 0, "")), true}, {column(0, live(1, api.Int, -1, "")), true},
		{column(0, live(math.MinInt, api.Int, math.MinInt, "")), true}, {column(0, live(math.MaxInt, api.Int, math.MaxInt, "")), true},
		{mark(0, live(1, api.Int, 1, "")), false}, {mark(0, live(1, api.Int, 0, "")), false},
		{column(0, live(1, api.Int, 0, "s")), false}, {column(0, live(1, api.Int, 1, "s")), false},

		{column(0, live(1, api.Str, 0, "")), true}, {column(0, live(1, api.Str, 0, "s")), true},
		{column(0, live(1, api.Str, 0, "\x00\xff é")), true},
		{column(0, live(1, api.Str, 0, long)), true}, {column(0, live(1, api.Str, 0, longer)), false},
		{column(0, live(1, api.Str, 0, strings.Repeat("é", api.MaxText/2+1))), false},
		{mark(0, live(1, api.Str, 0, "s")), false}, {mark(0, live(1, api.Str, 0, "")), false},
		{column(0, live(1, api.Str, 1, "s")), false}, {column(0, live(1, api.Str, -1, "")), false},

		{column(0, live(1, api.Str+1, 0, "")), false}, {mark(0, live(1, api.Str+1, 0, "")), false},
		{column(0, live(1, -1, 0, "")), false}, {mark(0, live(1, -1, 0, "")), false},
		{column(0, live(1, math.MinInt, 0, "")), false}, {column(0, live(1, math.MaxInt, 0, "")), false},

		{mark(0, api.Version{Local: 1}), false}, {mark(0, api.Version{Local: -1}), false},
		{column(0, api.Version{Local: 1, Value: api.Value{Kind: api.Int}}), false},
		{column(0, api.Version{Local: math.MinInt, Value: api.Value{Kind: api.Str}}), false},
	} {
		if got := cell.Good(c.cell); got != c.want {
			t.Errorf("Good(%#v): %v, want %v", c.cell, got, c.want)
		}
	}
}

// slowGood: the words as they stand, each by itself.
func slowGood(c api.Cell) bool {
	v, none, isMark := c.Version, c.Version.Value == api.Value{}, c.Key.Column == ""
	ofInt := v.Value.Kind == api.Int && v.Value.S == "" && !isMark
	ofStr := v.Value.Kind == api.Str && v.Value.N == 0 && len(v.Value.S) <= api.MaxText && !isMark
	return key.Good(c.Key) && (v.Dead && none || !v.Dead && v.Local == 0 && (none && isMark || ofInt || ofStr))
}

// P5.1: each field with each of its edges.
func TestGoodByWords(t *testing.T) {
	keys := []api.Key{{Table: "t", Part: "p"}, {Table: "t", Part: "p", Column: "c"}, {Table: "t", Part: "p", Column: "_"}, {Table: "t"}, {Table: "t", Column: "c"}}
	good := 0
	for _, k := range keys {
		for _, v := range allVersions() {
			c := api.Cell{Key: k, Version: v}
			want := slowGood(c)
			if got := cell.Good(c); got != want {
				t.Fatalf("Good(%#v): %v, want %v", c, got, want)
			}
			if want {
				good++
			}
		}
	}
	if good == 0 {
		t.Errorf("none of them is good")
	}
}

// allVersions: each edge of a field with all of the others'; times are few, as Good looks at none.
func allVersions() []api.Version {
	var l []api.Version
	for _, kind := range edgeKinds() {
		for _, n := range edgeNumbers() {
			for _, s := range edgeTexts() {
				for _, local := range edgeNumbers() {
					value := api.Value{Kind: kind, N: n, S: s}
					l = append(l, api.Version{Time: local, Local: local, Value: value}, api.Version{Time: n, Dead: true, Local: local, Value: value})
				}
			}
		}
	}
	return l
}

// P5.1
func TestLive(t *testing.T) {
	for _, v := range manyVersions(1, 500) {
		if got, want := cell.Live(v), v.Dead == false; got != want {
			t.Errorf("Live(%#v): %v, want %v", v, got, want)
		}
	}
	if !cell.Live(api.Version{}) || cell.Live(api.Version{Dead: true}) {
		t.Errorf("the zero version lives, with Dead it does not")
	}
}

// P5.2: versions unlike in one field alone, and in two of them in opposite ways; and those that are alike though they are not the same.
func TestCmp(t *testing.T) {
	for _, c := range []struct {
		a, b api.Version
		want int
	}{
		{api.Version{}, api.Version{}, 0},
		{live(5, api.Int, 1, ""), live(5, api.Int, 1, ""), 0},
		{dead(5, 7), dead(5, 7), 0},
		// one field
		{live(4, api.Int, 1, ""), live(5, api.Int, 1, ""), -1},
		{dead(4, 7), dead(5, 7), -1},
		{live(5, api.Int, 1, ""), dead(5, 0), -1},
		{live(5, api.None, 0, ""), dead(5, 0), -1},
		{dead(5, 6), dead(5, 7), -1},
		{live(5, api.None, 0, ""), live(5, api.Int, 0, ""), -1},
		{live(5, api.Int, 0, ""), live(5, api.Str, 0, ""), -1},
		{live(5, -1, 0, ""), live(5, api.None, 0, ""), -1},
		{live(5, api.Int, 1, ""), live(5, api.Int, 2, ""), -1},
		{live(5, api.Str, 0, "a"), live(5, api.Str, 0, "b"), -1},
		// two fields
		{live(4, api.Int, 2, ""), live(5, api.Int, 1, ""), -1},
		{live(4, api.Str, 0, "b"), live(5, api.Str, 0, "a"), -1},
		{live(4, api.Str, 0, ""), live(5, api.Int, 0, ""), -1},
		{dead(4, 7), dead(5, 6), -1},
		{dead(4, 0), live(5, api.Int, 0, ""), -1},
		{live(5, api.Str, 9, "z"), dead(5, math.MinInt), -1},
		{live(5, api.Int, 2, ""), live(5, api.Str, 1, ""), -1},
		{live(5, api.Int, 0, "b"), live(5, api.Str, 0, "a"), -1},
		{live(5, api.Int, 1, "b"), live(5, api.Int, 2, "a"), -1},
		// the ends
		{live(math.MinInt, api.Int, 0, ""), live(math.MaxInt, api.Int, 0, ""), -1},
		{live(math.MinInt, api.Int, 0, ""), live(1, api.Int, 0, ""), -1},
		{live(-1, api.Int, 0, ""), live(0, api.Int, 0, ""), -1},
		{dead(0, math.MinInt), dead(0, math.MaxInt), -1},
		{dead(0, -1), dead(0, 1), -1},
		{live(0, api.Int, math.MinInt, ""), live(0, api.Int, math.MaxInt, ""), -1},
		{live(0, api.Int, -1, ""), live(0, api.Int, 0, ""), -1},
		{live(0, math.MinInt, 0, ""), live(0, math.MaxInt, 0, ""), -1},
		// texts by their bytes
		{live(0, api.Str, 0, ""), live(0, api.Str, 0, "\x00"), -1},
		{live(0, api.Str, 0, "a"), live(0, api.Str, 0, "aa"), -1},
		{live(0, api.Str, 0, "10"), live(0, api.Str, 0, "9"), -1},
		{live(0, api.Str, 0, "Z"), live(0, api.Str, 0, "a"), -1},
		{live(0, api.Str, 0, "\x7f"), live(0, api.Str, 0, "\x80"), -1},
		{live(0, api.Str, 0, "\xf4\x8f\xbf\xbf"), live(0, api.Str, 0, "\xff"), -1},
		// not looked at
		{api.Version{Local: 1}, api.Version{Local: 2}, 0},
		{api.Version{Local: 2}, api.Version{Value: api.Value{N: 1}}, -1},
		{api.Version{Local: 2}, api.Version{Local: 1, Dead: true}, -1},
		{api.Version{Dead: true, Value: api.Value{Kind: api.Int}}, api.Version{Dead: true, Value: api.Value{Kind: api.Str}}, 0},
		{api.Version{Dead: true, Value: api.Value{N: 1}}, api.Version{Dead: true}, 0},
		{api.Version{Dead: true, Value: api.Value{S: "a"}}, api.Version{Dead: true, Value: api.Value{S: "b"}}, 0},
		{api.Version{Dead: true, Value: api.Value{N: 2}}, api.Version{Dead: true, Local: 1, Value: api.Value{N: 1}}, -1},
	} {
		if got := cell.Cmp(c.a, c.b); got != c.want {
			t.Errorf("Cmp(%#v, %#v): %d, want %d", c.a, c.b, got, c.want)
		}
		if got := cell.Cmp(c.b, c.a); got != -c.want {
			t.Errorf("Cmp(%#v, %#v): %d, want %d", c.b, c.a, got, -c.want)
		}
	}
}

// P5.2: by the words, and Join by Cmp.
func TestCmpAndJoinByWords(t *testing.T) {
	l := manyVersions(2, 600)
	for _, a := range l {
		for _, b := range l {
			want := strings.Compare(spelt(a), spelt(b))
			if got := cell.Cmp(a, b); got != want {
				t.Fatalf("Cmp(%#v, %#v): %d, want %d", a, b, got, want)
			}
			greater := a
			if want < 0 {
				greater = b
			}
			if got := cell.Join(a, b); got != greater {
				t.Fatalf("Join(%#v, %#v): %#v, want %#v", a, b, got, greater)
			}
		}
	}
}

// P5.4: an order: one of three holds, each is like itself, and what is below another is below what that is below.
func TestCmpIsAnOrder(t *testing.T) {
	l := manyVersions(3, 60)
	for _, a := range l {
		if cell.Cmp(a, a) != 0 {
			t.Fatalf("%#v is not like itself", a)
		}
		for _, b := range l {
			if cell.Cmp(a, b) != -cell.Cmp(b, a) {
				t.Fatalf("%#v and %#v: %d, and back %d", a, b, cell.Cmp(a, b), cell.Cmp(b, a))
			}
			for _, c := range l {
				if cell.Cmp(a, b) <= 0 && cell.Cmp(b, c) <= 0 && cell.Cmp(a, c) > 0 {
					t.Fatalf("%#v, %#v and %#v go round", a, b, c)
				}
			}
		}
	}
}

// P5.2: the chapter's example, and versions that are alike: the first of them.
func TestJoin(t *testing.T) {
	oddDead, oddLive := api.Version{Time: 5, Dead: true, Value: api.Value{N: 3}}, api.Version{Time: 5, Local: 3}
	for _, c := range []struct{ a, b, want api.Version }{
		{live(5, api.Int, 1, ""), dead(5, 0), dead(5, 0)},
		{live(6, api.Int, 1, ""), dead(5, 0), live(6, api.Int, 1, "")},
		{live(5, api.Str, 0, "a"), live(5, api.Str, 0, "b"), live(5, api.Str, 0, "b")},
		{live(math.MaxInt, api.None, 0, ""), dead(math.MinInt, math.MaxInt), live(math.MaxInt, api.None, 0, "")},
		{dead(5, 1), dead(5, 2), dead(5, 2)},
	} {
		if got := cell.Join(c.a, c.b); got != c.want {
			t.Errorf("Join(%#v, %#v): %#v, want %#v", c.a, c.b, got, c.want)
		}
		if got := cell.Join(c.b, c.a); got != c.want {
			t.Errorf("Join(%#v, %#v): %#v, want %#v", c.b, c.a, got, c.want)
		}
	}
	for _, pair := range [][2]api.Version{{oddDead, dead(5, 0)}, {oddLive, live(5, api.None, 0, "")}} {
		for _, c := range [][2]api.Version{{pair[0], pair[1]}, {pair[1], pair[0]}} {
			if got := cell.Join(c[0], c[1]); got != c[0] {
				t.Errorf("Join(%#v, %#v): %#v, want the first", c[0], c[1], got)
			}
		}
	}
}

// P5.4: of good versions, neither the order nor how often tells.
func TestJoinOfGoodVersions(t *testing.T) {
	source := newSource(4)
	for range 3000 {
		l := make([]api.Version, 1+source.IntN(6))
		for i := range l {
			l[i] = goodVersion(source)
		}
		want := joinAll(l)
		mixed := append(slices.Clone(l), l[:source.IntN(len(l)+1)]...)
		source.Shuffle(len(mixed), func(i, j int) { mixed[i], mixed[j] = mixed[j], mixed[i] })
		if got := joinAll(mixed); got != want {
			t.Fatalf("of %#v: %#v, in another order %#v", l, want, got)
		}
		at := source.IntN(len(mixed))
		if at > 0 {
			if got := cell.Join(joinAll(mixed[:at]), joinAll(mixed[at:])); got != want {
				t.Fatalf("of %#v: %#v, cut at %d: %#v", mixed, want, at, got)
			}
		}
	}
}

func joinAll(l []api.Version) api.Version {
	v := l[0]
	for _, x := range l[1:] {
		v = cell.Join(v, x)
	}
	return v
}
