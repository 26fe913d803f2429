package cell_test

import (
	"math"
	"slices"
	"testing"

	"skerry/api"
	"skerry/cell"
	"skerry/codec"
	"skerry/key"
	"skerry/murmur"
)

func wantNorm(t *testing.T, l, want []api.Cell) {
	t.Helper()
	if got := cell.Norm(l); !slices.Equal(got, want) {
		t.Fatalf("Norm(%#v): %#v, want %#v", l, got, want)
	}
}

// P5.3
func TestNorm(t *testing.T) {
	one, two, gone := live(5, api.Int, 1, ""), live(5, api.Int, 2, ""), dead(5, 3)
	oddOne, oddTwo := api.Version{Time: 5, Dead: true, Local: 3, Value: api.Value{N: 1}}, api.Version{Time: 5, Dead: true, Local: 3, Value: api.Value{N: 2}}
	for _, c := range []struct{ l, want []api.Cell }{
		{nil, nil},
		{[]api.Cell{}, nil},
		{[]api.Cell{{}}, []api.Cell{{}}},
		{[]api.Cell{column(1, one)}, []api.Cell{column(1, one)}},
		{[]api.Cell{column(1, one), column(2, one)}, []api.Cell{column(1, one), column(2, one)}},
		{[]api.Cell{column(2, one), column(1, two)}, []api.Cell{column(1, two), column(2, one)}},
		{[]api.Cell{column(1, one), mark(1, live(5, api.None, 0, ""))}, []api.Cell{mark(1, live(5, api.None, 0, "")), column(1, one)}},
		{[]api.Cell{column(1, one), column(1, two)}, []api.Cell{column(1, two)}},
		{[]api.Cell{column(1, two), column(1, one)}, []api.Cell{column(1, two)}},
		{[]api.Cell{column(1, two), column(1, gone), column(1, one)}, []api.Cell{column(1, gone)}},
		{[]api.Cell{column(1, two), column(2, gone), column(1, one), column(2, one)}, []api.Cell{column(1, two), column(2, gone)}},
		{[]api.Cell{column(1, one), column(1, one)}, []api.Cell{column(1, one)}},
		{[]api.Cell{column(1, oddOne), column(1, oddTwo)}, []api.Cell{column(1, oddOne)}},
		{[]api.Cell{column(1, oddTwo), column(1, oddOne)}, []api.Cell{column(1, oddTwo)}},
		{[]api.Cell{column(2, one), column(1, oddTwo), column(1, one), column(2, two), column(1, oddOne)}, []api.Cell{column(1, oddTwo), column(2, two)}},
		{[]api.Cell{mark(math.MaxInt, gone), mark(-1, gone), mark(0, gone), mark(math.MinInt, gone), mark(1, gone)},
			[]api.Cell{mark(math.MinInt, gone), mark(-1, gone), mark(0, gone), mark(1, gone), mark(math.MaxInt, gone)}},
	} {
		wantNorm(t, c.l, c.want)
	}
}

// P5.3: by the words; and Norm's answer is Sorted.
func TestNormByWords(t *testing.T) {
	source := newSource(5)
	for range 3000 {
		l := anyCells(source, 40)
		wantNorm(t, l, slowNorm(l))
		if !cell.Sorted(cell.Norm(l)) {
			t.Fatalf("Norm(%#v) is not sorted", l)
		}
	}
}

// P5.3: of a long list with a key many times and ties among them, the first of the greatest stays.
func TestNormLong(t *testing.T) {
	source := newSource(6)
	for range 5 {
		l := anyCells(source, 20000)
		wantNorm(t, l, slowNorm(l))
	}
}

// P5.4
func TestNormOfNorms(t *testing.T) {
	source := newSource(7)
	for range 2000 {
		a, b := anyCells(source, 20), anyCells(source, 20)
		// Half of the time they share keys.
		for i := range b {
			if len(a) > 0 && source.IntN(2) == 0 {
				b[i].Key = anyOf(source, a).Key
			}
		}
		normA, normB := cell.Norm(a), cell.Norm(b)
		wantNorm(t, normA, normA)
		wantNorm(t, slices.Concat(normA, normB), cell.Norm(slices.Concat(a, b)))
	}
}

// P5.4: of good cells, in whatever order and how often they are told, the same.
func TestNormOfGoodCells(t *testing.T) {
	source := newSource(8)
	for range 2000 {
		l := anyCells(source, 20)
		for i := range l {
			l[i].Version = goodVersion(source)
		}
		mixed := append(slices.Clone(l), l[:source.IntN(len(l)+1)]...)
		source.Shuffle(len(mixed), func(i, j int) { mixed[i], mixed[j] = mixed[j], mixed[i] })
		wantNorm(t, mixed, cell.Norm(l))
		if cell.Digest(cell.Norm(mixed)) != cell.Digest(cell.Norm(l)) {
			t.Fatalf("the digests of %#v differ", l)
		}
	}
}

// P5.3
func TestSorted(t *testing.T) {
	one, two := live(5, api.Int, 1, ""), live(5, api.Int, 2, "")
	of := func(rows ...int) []api.Cell {
		var l []api.Cell
		for _, row := range rows {
			l = append(l, column(row, one))
		}
		return l
	}
	for _, c := range []struct {
		l    []api.Cell
		want bool
	}{
		{nil, true}, {[]api.Cell{}, true}, {[]api.Cell{{}}, true}, {of(1), true},
		{of(1, 2), true}, {of(2, 1), false}, {of(1, 1), false},
		{of(1, 2, 3), true}, {of(1, 2, 2), false}, {of(1, 1, 2), false}, {of(1, 3, 2), false}, {of(2, 1, 3), false}, {of(2, 3, 1), false},
		{of(math.MinInt, -1, 0, 1, math.MaxInt), true}, {of(0, -1), false}, {of(math.MaxInt, math.MinInt), false},
		{[]api.Cell{mark(1, one), column(1, one)}, true}, {[]api.Cell{column(1, one), mark(1, one)}, false},
		{[]api.Cell{column(1, one), mark(2, one)}, true},
		{[]api.Cell{column(1, one), column(1, two)}, false}, {[]api.Cell{column(1, two), column(2, one)}, true},
	} {
		if got := cell.Sorted(c.l); got != c.want {
			t.Errorf("Sorted(%#v): %v, want %v", c.l, got, c.want)
		}
	}
}

// P5.3: a list is sorted if it is made of the keys that Norm tells.
func TestSortedByWords(t *testing.T) {
	source := newSource(9)
	sorted := 0
	for range 5000 {
		l := anyCells(source, 4)
		var have, want []api.Key
		for _, c := range l {
			have = append(have, c.Key)
		}
		for _, c := range slowNorm(l) {
			want = append(want, c.Key)
		}
		if got := cell.Sorted(l); got != slices.Equal(have, want) {
			t.Fatalf("Sorted(%#v): %v", l, got)
		}
		if len(l) > 1 && slices.Equal(have, want) {
			sorted++
		}
	}
	if sorted < 50 {
		t.Errorf("only %d of them are sorted", sorted)
	}
}

func wantFind(t *testing.T, l []api.Cell, k api.Key, want api.Version, wantOk bool) {
	t.Helper()
	if got, ok := cell.Find(l, k); got != want || ok != wantOk {
		t.Fatalf("Find(%#v, %#v): %#v %v, want %#v %v", l, k, got, ok, want, wantOk)
	}
}

// P5.3
func TestFind(t *testing.T) {
	one, two, gone := live(5, api.Int, 1, ""), live(6, api.Int, 2, ""), dead(7, 3)
	l := []api.Cell{column(3, one), column(1, gone), column(3, two), mark(2, gone)}
	k := column(3, one).Key
	wantFind(t, l, k, one, true)
	wantFind(t, l[1:], k, two, true)
	wantFind(t, l[3:], k, api.Version{}, false)
	wantFind(t, l, column(1, one).Key, gone, true)
	wantFind(t, l, mark(2, one).Key, gone, true)
	wantFind(t, l, mark(1, one).Key, api.Version{}, false)
	wantFind(t, l, column(2, one).Key, api.Version{}, false)
	wantFind(t, l, api.Key{}, api.Version{}, false)
	wantFind(t, nil, k, api.Version{}, false)
	wantFind(t, nil, api.Key{}, api.Version{}, false)
	wantFind(t, []api.Cell{{}}, api.Key{}, api.Version{}, true)
	for _, other := range []api.Key{
		{Table: "u", Part: "p", Row: 3, Column: "c"}, {Table: "t", Part: "q", Row: 3, Column: "c"},
		{Table: "t", Part: "p", Row: -3, Column: "c"}, {Table: "t", Part: "p", Row: 3, Column: "d"}, {Table: "t", Part: "p", Row: 3, Column: "C"},
	} {
		wantFind(t, l, other, api.Version{}, false)
	}
}

// P5.3: in lists that are sorted, and such as are not.
func TestFindByWords(t *testing.T) {
	source := newSource(10)
	for range 3000 {
		l := anyCells(source, 20)
		if source.IntN(2) == 0 {
			l = cell.Norm(l)
		}
		k := anyKey(source)
		if len(l) > 0 && source.IntN(4) > 0 {
			k = anyOf(source, l).Key
		}
		at := slices.IndexFunc(l, func(c api.Cell) bool { return key.Cmp(c.Key, k) == 0 })
		if at < 0 {
			wantFind(t, l, k, api.Version{}, false)
		} else {
			wantFind(t, l, k, l[at].Version, true)
		}
	}
}

// P5.3
func TestDigest(t *testing.T) {
	source := newSource(11)
	lists := [][]api.Cell{nil, {}, {{}}, {column(1, live(math.MinInt, api.Int, math.MaxInt, ""))}, {mark(1, dead(math.MaxInt, math.MinInt))}}
	for range 500 {
		lists = append(lists, anyCells(source, 30))
	}
	for _, l := range lists {
		want, other := murmur.Sum(codec.Cells(l), 0)
		if got := cell.Digest(l); got != want || got == other {
			t.Fatalf("Digest(%#v): %x, want %x", l, got, want)
		}
	}
	if cell.Digest(nil) != cell.Digest([]api.Cell{}) {
		t.Errorf("no cells have two digests")
	}
}

// P5.3: the list is told as it is, not as Norm would have it.
func TestDigestTellsTheOrder(t *testing.T) {
	a, b := column(1, live(5, api.Int, 1, "")), column(2, live(5, api.Int, 1, ""))
	digests := []uint64{
		cell.Digest(nil), cell.Digest([]api.Cell{a}), cell.Digest([]api.Cell{a, b}), cell.Digest([]api.Cell{b, a}),
		cell.Digest([]api.Cell{a, a}), cell.Digest([]api.Cell{column(1, live(6, api.Int, 1, ""))}),
	}
	for i := range digests {
		for j := range i {
			if digests[i] == digests[j] {
				t.Errorf("the lists %d and %d have one digest", i, j)
			}
		}
	}
}

// R3: what is handed in is left as it was, with what lies behind its end.
func TestArgumentsAreLeft(t *testing.T) {
	source := newSource(12)
	for range 300 {
		room := anyCells(source, 30)
		before := slices.Clone(room)
		l := room[:source.IntN(len(room)+1)]
		cell.Norm(l)
		cell.Sorted(l)
		cell.Digest(l)
		cell.Find(l, anyKey(source))
		if !slices.Equal(room, before) {
			t.Fatalf("%#v was changed to %#v", before, room)
		}
	}
}

// R3: an answer is new memory, its spare room too.
func TestNormMemory(t *testing.T) {
	source := newSource(13)
	for range 300 {
		l := anyCells(source, 30)
		want := slowNorm(l)
		sorted := slices.Clone(want)
		for _, handed := range [][]api.Cell{l, sorted} {
			first, second := cell.Norm(handed), cell.Norm(handed)
			clear(first[:cap(first)])
			if !slices.Equal(second, want) || !slices.Equal(slowNorm(handed), want) {
				t.Fatalf("what Norm told of %#v shares memory", handed)
			}
			clear(handed[:cap(handed)])
			if !slices.Equal(second, want) {
				t.Fatalf("what Norm told hangs on its argument")
			}
		}
	}
}
