package skip_test

import (
	"iter"
	"math"
	"slices"
	"strings"
	"testing"

	"skerry/api"
	"skerry/cell"
	"skerry/skip"
)

func live(time, n int) api.Version {
	return api.Version{Time: time, Value: api.Value{Kind: api.Int, N: n}}
}

func dead(time, local int) api.Version {
	return api.Version{Time: time, Dead: true, Local: local}
}

func keyOf(column string) api.Key {
	return api.Key{Table: "t", Part: "p", Column: column}
}

func cellOf(column string, v api.Version) api.Cell {
	return api.Cell{Key: keyOf(column), Version: v}
}

// cellsOf: one a letter, in their order.
func cellsOf(letters string) []api.Cell {
	var l []api.Cell
	for _, r := range letters {
		l = append(l, cellOf(string(r), live(1, int(r))))
	}
	return l
}

func put(t *testing.T, l *skip.List, cells ...api.Cell) {
	t.Helper()
	for _, c := range cells {
		if e := l.Put(c); e != api.OK {
			t.Fatalf("Put(%#v): %v", c, e)
		}
	}
}

func listOf(t *testing.T, levels []int, letters string) *skip.List {
	t.Helper()
	l := skip.New(levels)
	put(t, l, cellsOf(letters)...)
	return l
}

func wantCells(t *testing.T, what string, got, want []api.Cell) {
	t.Helper()
	if !slices.Equal(got, want) {
		t.Fatalf("%s: %#v, want %#v", what, got, want)
	}
}

func wantScan(t *testing.T, what string, got iter.Seq[api.Cell], want []api.Cell) {
	t.Helper()
	if got == nil {
		t.Fatalf("%s: no iterator", what)
	}
	wantCells(t, what, slices.Collect(got), want)
}

func wantHeights(t *testing.T, l *skip.List, want []int) {
	t.Helper()
	if got := l.Heights(); !slices.Equal(got, want) {
		t.Fatalf("Heights: %v, want %v", got, want)
	}
}

func wantGet(t *testing.T, l *skip.List, k api.Key, want api.Version, there bool) {
	t.Helper()
	if got, ok := l.Get(k); got != want || ok != there {
		t.Fatalf("Get(%#v): %#v, %v, want %#v, %v", k, got, ok, want, there)
	}
}

// last: a key that is greater than each that may be.
func last() api.Key { return api.Key{Table: "\xff"} }

// P6.1, P6.2: the chapter's example.
func TestExample(t *testing.T) {
	l := listOf(t, []int{2, 1}, "bac")
	wantHeights(t, l, []int{1, 2, 2})
	wantCells(t, "All", l.All(), cellsOf("abc"))
	if l.Len() != 3 {
		t.Errorf("Len: %d", l.Len())
	}
}

// P6.1
func TestNewIsEmpty(t *testing.T) {
	for _, levels := range [][]int{nil, {}, {1}, {8, 2}, {0}, {-1, 9}} {
		l := skip.New(levels)
		if l.Len() != 0 || len(l.All()) != 0 || len(l.Heights()) != 0 {
			t.Errorf("New(%v): %d, %#v, %v", levels, l.Len(), l.All(), l.Heights())
		}
		wantGet(t, l, keyOf("a"), api.Version{}, false)
		wantGet(t, l, api.Key{}, api.Version{}, false)
		wantScan(t, "Scan", l.Scan(api.Key{}, last()), nil)
	}
}

// P6.1: the cells are put in by rising keys, so that the heights stand as they were given.
func TestHeights(t *testing.T) {
	for _, c := range []struct {
		levels []int
		cells  string
		want   []int
	}{
		{nil, "abc", []int{1, 1, 1}},
		{[]int{}, "abc", []int{1, 1, 1}},
		{[]int{1}, "a", []int{1}},
		{[]int{3}, "abc", []int{3, 3, 3}},
		{[]int{1, 2, 3, 4, 5, 6, 7, 8}, "abcdefgh", []int{1, 2, 3, 4, 5, 6, 7, 8}},
		{[]int{0}, "ab", []int{1, 1}},
		{[]int{-1, 0, 1, 2}, "abcd", []int{1, 1, 1, 2}},
		{[]int{math.MinInt, math.MaxInt}, "ab", []int{1, api.MaxLevel}},
		{[]int{api.MaxLevel - 1, api.MaxLevel, api.MaxLevel + 1}, "abc", []int{api.MaxLevel - 1, api.MaxLevel, api.MaxLevel}},
		{[]int{2, 5, 3}, "ab", []int{2, 5}},
		{[]int{2, 5, 3}, "abcdefgh", []int{2, 5, 3, 2, 5, 3, 2, 5}},
		{[]int{9, -9}, "abcde", []int{8, 1, 8, 1, 8}},
	} {
		wantHeights(t, listOf(t, c.levels, c.cells), c.want)
	}
}

// P6.1, P6.2: a height goes with its cell, whatever is put in around it.
func TestHeightsByKeys(t *testing.T) {
	wantHeights(t, listOf(t, []int{1, 2, 3, 4}, "dcba"), []int{4, 3, 2, 1})
	wantHeights(t, listOf(t, []int{1, 2, 3, 4, 5}, "caedb"), []int{2, 5, 1, 4, 3})
}

// P6.1: neither a key that is there nor a cell that is refused takes a height.
func TestHeightsGoWithCellsThatArePutIn(t *testing.T) {
	l := skip.New([]int{1, 2, 3})
	put(t, l, cellOf("a", live(1, 1)), cellOf("a", live(2, 1)), cellOf("a", live(1, 1)), cellOf("b", live(1, 1)))
	if e := l.Put(cellOf("C", live(1, 1))); e != api.ErrArg {
		t.Errorf("Put: %v", e)
	}
	put(t, l, cellOf("b", dead(1, 1)), cellOf("a", live(0, 1)), cellOf("c", live(1, 1)), cellOf("b", live(3, 3)), cellOf("d", live(1, 1)))
	wantHeights(t, l, []int{1, 2, 3, 1})
	if l.Len() != 4 {
		t.Errorf("Len: %d", l.Len())
	}
}

// P6.1: a cell that is not good is refused, and nothing has changed.
func TestPutRefuses(t *testing.T) {
	l := listOf(t, []int{2, 1}, "ac")
	withKey := func(k api.Key) api.Cell { return api.Cell{Key: k, Version: live(9, 1)} }
	for _, c := range []api.Cell{
		{},
		withKey(api.Key{Part: "p", Column: "a"}),
		withKey(api.Key{Table: "T", Part: "p", Column: "a"}),
		withKey(api.Key{Table: "t", Column: "a"}),
		withKey(api.Key{Table: "t", Part: strings.Repeat("p", api.MaxText+1), Column: "a"}),
		withKey(keyOf("A")),
		withKey(keyOf("")),
		cellOf("a", api.Version{Time: 9}),
		cellOf("a", api.Version{Time: 9, Local: 1, Value: api.Value{Kind: api.Int}}),
		cellOf("a", api.Version{Time: 9, Dead: true, Value: api.Value{Kind: api.Int}}),
		cellOf("a", api.Version{Time: 9, Value: api.Value{Kind: api.Int, S: "s"}}),
		cellOf("a", api.Version{Time: 9, Value: api.Value{Kind: api.Str, N: 1}}),
		cellOf("a", api.Version{Time: 9, Value: api.Value{Kind: api.Str, S: strings.Repeat("s", api.MaxText+1)}}),
		cellOf("b", api.Version{Time: 9, Value: api.Value{Kind: api.Str + 1}}),
	} {
		if e := l.Put(c); e != api.ErrArg {
			t.Errorf("Put(%#v): %v, want %v", c, e, api.ErrArg)
		}
	}
	wantCells(t, "All", l.All(), cellsOf("ac"))
	wantHeights(t, l, []int{2, 1})
	if l.Len() != 2 {
		t.Errorf("Len: %d", l.Len())
	}
}

// P6.1: a key that is put again has the greater version, whichever came first.
func TestPutJoins(t *testing.T) {
	for _, c := range []struct{ less, greater api.Version }{
		{live(1, 1), live(2, 0)},
		{live(1, 1), live(1, 2)},
		{live(1, math.MaxInt), dead(1, math.MinInt)},
		{dead(1, 1), dead(1, 2)},
		{dead(1, 9), live(2, 0)},
		{live(math.MinInt, 1), live(math.MaxInt, 1)},
		{live(1, math.MaxInt), api.Version{Time: 1, Value: api.Value{Kind: api.Str}}},
	} {
		for _, two := range [][2]api.Version{{c.less, c.greater}, {c.greater, c.less}, {c.greater, c.greater}} {
			l := listOf(t, []int{2, 1}, "ac")
			put(t, l, cellOf("b", two[0]), cellOf("b", two[1]))
			wantGet(t, l, keyOf("b"), c.greater, true)
			wantCells(t, "All", l.All(), []api.Cell{cellsOf("a")[0], cellOf("b", c.greater), cellsOf("c")[0]})
		}
	}
}

// P6.1, P6.2: keys that are alike in all parts but one.
func TestKeysByAllParts(t *testing.T) {
	keys := []api.Key{
		{Table: "a", Part: "p", Row: 1, Column: "c"},
		{Table: "t", Part: "o", Row: 1, Column: "c"},
		{Table: "t", Part: "p", Row: math.MinInt, Column: "c"},
		{Table: "t", Part: "p", Row: -1, Column: "c"},
		{Table: "t", Part: "p", Row: 1},
		{Table: "t", Part: "p", Row: 1, Column: "b"},
		{Table: "t", Part: "p", Row: 1, Column: "c"},
		{Table: "t", Part: "p", Row: math.MaxInt, Column: "c"},
		{Table: "t", Part: "p\x00", Row: 1, Column: "c"},
		{Table: "t", Part: "\xff", Row: 1, Column: "c"},
		{Table: "t2", Part: "p", Row: 1, Column: "c"},
	}
	l := skip.New([]int{3, 1, 2})
	var want []api.Cell
	for i, k := range keys {
		want = append(want, api.Cell{Key: k, Version: dead(i, i)})
	}
	for i := range want {
		put(t, l, want[i*4%len(want)])
	}
	wantCells(t, "All", l.All(), want)
	for i, k := range keys {
		wantGet(t, l, k, dead(i, i), true)
	}
}

// P6.2: keys ahead of, between and behind those that are there, and such as may not be.
func TestGet(t *testing.T) {
	l := listOf(t, []int{1, 3, 2}, "fbdh")
	for _, c := range cellsOf("bdfh") {
		wantGet(t, l, c.Key, c.Version, true)
	}
	for _, k := range []api.Key{keyOf("a"), keyOf("c"), keyOf("e"), keyOf("g"), keyOf("i"), keyOf("bb"), keyOf(""), keyOf("B"),
		{}, last(), {Table: "t", Part: "p", Row: 1, Column: "b"}, {Table: "t", Part: "q", Column: "b"}, {Table: "u", Part: "p", Column: "b"}} {
		wantGet(t, l, k, api.Version{}, false)
	}
}

// P6.2: bounds that are keys of the list, that lie between them, that are none, and that lie the wrong way round.
func TestScan(t *testing.T) {
	l := listOf(t, []int{1, 3, 2}, "fbdh")
	for _, c := range []struct {
		from, until api.Key
		want        string
	}{
		{keyOf("b"), keyOf("h"), "bdf"},
		{keyOf("b"), keyOf("i"), "bdfh"},
		{keyOf("b"), keyOf("b"), ""},
		{keyOf("b"), keyOf("bb"), "b"},
		{keyOf("bb"), keyOf("d"), ""},
		{keyOf("c"), keyOf("g"), "df"},
		{keyOf("d"), keyOf("f"), "d"},
		{keyOf("c"), keyOf("c"), ""},
		{keyOf("a"), keyOf("b"), ""},
		{keyOf("h"), keyOf("i"), "h"},
		{keyOf("i"), keyOf("z"), ""},
		{keyOf("h"), keyOf("b"), ""},
		{keyOf("f"), keyOf("d"), ""},
		{keyOf("z"), keyOf("a"), ""},
		{api.Key{}, last(), "bdfh"},
		{api.Key{}, api.Key{}, ""},
		{last(), api.Key{}, ""},
		{last(), last(), ""},
		{api.Key{}, keyOf("d"), "b"},
		{keyOf("d"), api.Key{}, ""},
		{keyOf(""), keyOf("C"), ""},
		{keyOf("B"), keyOf("c"), "b"},
		{api.Key{Table: "t", Part: "p", Row: -1, Column: "z"}, api.Key{Table: "t", Part: "p", Row: 1}, "bdfh"},
		{api.Key{Table: "t", Part: "p", Row: 1}, last(), ""},
		{api.Key{Table: "t", Part: "o", Column: "z"}, keyOf("g"), "bdf"},
		{api.Key{Table: "s", Part: "z", Column: "z"}, api.Key{Table: "u"}, "bdfh"},
	} {
		wantScan(t, "Scan", l.Scan(c.from, c.until), cellsOf(c.want))
	}
}

// P6.2, R3: a scan tells what was there when it was asked for, also while cells are put.
func TestScanWhilePutting(t *testing.T) {
	l := listOf(t, []int{1, 2}, "bdf")
	scan := l.Scan(api.Key{}, last())
	put(t, l, cellOf("a", live(1, 1)), cellOf("d", live(5, 5)), cellOf("g", live(1, 1)))
	wantScan(t, "the first scan", scan, cellsOf("bdf"))

	var told []api.Cell
	for c := range l.Scan(keyOf("b"), last()) {
		told = append(told, c)
		put(t, l, cellOf(c.Key.Column+"x", live(1, 1)), cellOf("f", dead(9, 9)), cellOf("g", dead(9, 9)))
	}
	wantCells(t, "the second scan", told, []api.Cell{cellsOf("b")[0], cellOf("d", live(5, 5)), cellsOf("f")[0], cellOf("g", live(1, 1))})
	wantScan(t, "the first scan again", scan, cellsOf("bdf"))
	wantScan(t, "a third scan", l.Scan(keyOf("f"), last()), []api.Cell{
		cellOf("f", dead(9, 9)), cellOf("fx", live(1, 1)), cellOf("g", dead(9, 9)), cellOf("gx", live(1, 1))})
}

// R3: a scan of an empty list stays empty.
func TestScanOfNothing(t *testing.T) {
	l := skip.New(nil)
	scan := l.Scan(api.Key{}, last())
	put(t, l, cellsOf("abc")...)
	wantScan(t, "Scan", scan, nil)
}

// R3: a scan may be left at each place, gone over again, and nested in itself.
func TestScanIsLeftAndNested(t *testing.T) {
	cells := cellsOf("abcd")
	l := listOf(t, []int{1, 2}, "dbca")
	scan := l.Scan(api.Key{}, last())
	for most := 1; most <= len(cells); most++ {
		var told []api.Cell
		for c := range scan {
			told = append(told, c)
			if len(told) == most {
				break
			}
		}
		wantCells(t, "left early", told, cells[:most])
	}
	wantScan(t, "gone over again", scan, cells)

	var pairs [][2]api.Cell
	for a := range scan {
		for b := range scan {
			if b.Key == a.Key {
				break
			}
			pairs = append(pairs, [2]api.Cell{a, b})
		}
	}
	a, b, c, d := cells[0], cells[1], cells[2], cells[3]
	want := [][2]api.Cell{{b, a}, {c, a}, {c, b}, {d, a}, {d, b}, {d, c}}
	if !slices.Equal(pairs, want) {
		t.Errorf("nested: %#v, want %#v", pairs, want)
	}
}

// R3: once it was told to end, a scan tells no more.
func TestScanEndsAtOnce(t *testing.T) {
	calls := 0
	listOf(t, nil, "abc").Scan(api.Key{}, last())(func(api.Cell) bool {
		calls++
		return false
	})
	if calls != 1 {
		t.Errorf("%d calls", calls)
	}
}

// P6.2, R5: a List that no call made.
func TestNotMade(t *testing.T) {
	for _, l := range []*skip.List{nil, {}, new(skip.List)} {
		for _, c := range append(cellsOf("a"), api.Cell{}) {
			if e := l.Put(c); e != api.ErrMade {
				t.Errorf("Put(%#v): %v, want %v", c, e, api.ErrMade)
			}
		}
		wantGet(t, l, keyOf("a"), api.Version{}, false)
		wantGet(t, l, api.Key{}, api.Version{}, false)
		wantScan(t, "Scan", l.Scan(api.Key{}, last()), nil)
		if l.Len() != 0 || len(l.All()) != 0 || len(l.Heights()) != 0 {
			t.Errorf("%d, %#v, %v", l.Len(), l.All(), l.Heights())
		}
	}
	var l skip.List
	l.Put(cellsOf("a")[0])
	scan := l.Scan(api.Key{}, last())
	if l.Len() != 0 || len(l.All()) != 0 {
		t.Errorf("a refused Put changed the list")
	}
	wantScan(t, "Scan", scan, nil)
}

// R3: New keeps nothing of its argument and leaves it as it was, with the room behind its end.
func TestLevelsAreNotKept(t *testing.T) {
	room := []int{2, 99, -3, 7, 100}
	l := skip.New(room[:3])
	if want := []int{2, 99, -3, 7, 100}; !slices.Equal(room, want) {
		t.Errorf("levels are now %v, want %v", room, want)
	}
	put(t, l, cellsOf("a")...)
	for i := range room {
		room[i] = 5
	}
	put(t, l, cellsOf("bcd")...)
	wantHeights(t, l, []int{2, api.MaxLevel, 1, 2})
	if want := []int{5, 5, 5, 5, 5}; !slices.Equal(room, want) {
		t.Errorf("levels are now %v, want %v", room, want)
	}
}

// R3: two lists share nothing.
func TestListsAreApart(t *testing.T) {
	levels := []int{2, 1}
	a, b := skip.New(levels), skip.New(levels)
	put(t, a, cellsOf("abc")...)
	put(t, b, cellsOf("d")...)
	wantCells(t, "the first", a.All(), cellsOf("abc"))
	wantCells(t, "the second", b.All(), cellsOf("d"))
	wantHeights(t, a, []int{2, 1, 2})
	wantHeights(t, b, []int{2})
}

// R3: an answer is new memory, with its spare room: two answers may be changed and grown, and neither tells of the other, nor does the list.
func TestAnswersAreNew(t *testing.T) {
	for n := range 9 {
		cells := cellsOf("abcdefghi")[:n]
		l := skip.New([]int{3})
		put(t, l, cells...)
		first, second := l.All(), l.All()
		heights, others := l.Heights(), l.Heights()
		scan := l.Scan(api.Key{}, last())
		spoil(first, cellOf("z", dead(7, 7)))
		spoil(heights, 77)
		wantCells(t, "an earlier All", second, cells)
		wantCells(t, "All", l.All(), cells)
		wantScan(t, "Scan", scan, cells)
		if want := slices.Repeat([]int{3}, n); !slices.Equal(others, want) {
			t.Errorf("earlier Heights: %v, want %v", others, want)
		}
		wantHeights(t, l, slices.Repeat([]int{3}, n))
		for i, x := range second[:cap(second)] {
			if i >= n && x != (api.Cell{}) {
				t.Errorf("spare room of All: %#v", x)
			}
		}
		if !cell.Sorted(l.All()) || l.Len() != n {
			t.Errorf("Len: %d, All: %#v", l.Len(), l.All())
		}
	}
}

// spoil fills a list and the room behind its end.
func spoil[T any](l []T, x T) {
	l = l[:cap(l)]
	for i := range l {
		l[i] = x
	}
}
