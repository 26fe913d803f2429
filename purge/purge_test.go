package purge_test

import (
	"math"
	"math/big"
	"math/rand/v2"
	"slices"
	"testing"

	"skerry/api"
	"skerry/cell"
	"skerry/purge"
)

func live(time, n int) api.Version {
	return api.Version{Time: time, Value: api.Value{Kind: api.Int, N: n}}
}

func dead(time, local int) api.Version {
	return api.Version{Time: time, Dead: true, Local: local}
}

func row(n int, v api.Version) api.Cell {
	return api.Cell{Key: api.Key{Table: "t", Part: "p", Row: n, Column: "c"}, Version: v}
}

func list(l ...api.Cell) []api.Cell { return l }

func wantCells(t *testing.T, what string, got, want []api.Cell) {
	t.Helper()
	if !slices.Equal(got, want) {
		t.Fatalf("%s:\n%v\nwant\n%v", what, got, want)
	}
}

func wantOld(t *testing.T, v api.Version, now, grace int, want bool) {
	t.Helper()
	if got := purge.Old(v, now, grace); got != want {
		t.Errorf("Old(%v, %d, %d): %v, want %v", v, now, grace, got, want)
	}
}

// slowOld counts in whole numbers of any size.
func slowOld(v api.Version, now, grace int) bool {
	until := big.NewInt(int64(v.Local))
	if grace > 0 {
		until.Add(until, big.NewInt(int64(grace)))
	}
	return v.Dead && big.NewInt(int64(now)).Cmp(until) >= 0
}

// slowHas looks at each cell of each list.
func slowHas(lists [][]api.Cell, k api.Key) bool {
	for _, l := range lists {
		for _, c := range l {
			if c.Key == k {
				return true
			}
		}
	}
	return false
}

func slowCells(l []api.Cell, others [][]api.Cell, now, grace int) []api.Cell {
	var out []api.Cell
	for _, c := range cell.Norm(l) {
		if !slowOld(c.Version, now, grace) || slowHas(others, c.Key) {
			out = append(out, c)
		}
	}
	return out
}

func edgeNumbers() []int {
	return []int{math.MinInt, math.MinInt + 1, -11, -10, -1, 0, 1, 10, 11, math.MaxInt - 1, math.MaxInt}
}

func anyOf[T any](source *rand.Rand, l []T) T {
	return l[source.IntN(len(l))]
}

// anyKey: of few texts, so that keys come again, also such as may not be.
func anyKey(source *rand.Rand) api.Key {
	texts := []string{"", "a", "b", "a\x00", "\xff"}
	return api.Key{Table: anyOf(source, texts), Part: anyOf(source, texts), Row: source.IntN(3) - 1, Column: anyOf(source, texts)}
}

// anyVersion: also such as may not be: a deletion with a value, a live one with a local time.
func anyVersion(source *rand.Rand) api.Version {
	v := api.Version{Time: source.IntN(3), Dead: source.IntN(3) > 0, Local: source.IntN(12)}
	if source.IntN(4) == 0 {
		v.Local = anyOf(source, edgeNumbers())
	}
	if source.IntN(3) == 0 {
		v.Value = api.Value{Kind: source.IntN(3), N: source.IntN(2), S: anyOf(source, []string{"", "a"})}
	}
	return v
}

// anyLists: of few keys; some of the lists are sorted, some are empty.
func anyLists(source *rand.Rand, count, most int) [][]api.Cell {
	keys := make([]api.Key, 1+source.IntN(12))
	for i := range keys {
		keys[i] = anyKey(source)
	}
	lists := make([][]api.Cell, count)
	for i := range lists {
		for range source.IntN(most + 1) {
			lists[i] = append(lists[i], api.Cell{Key: anyOf(source, keys), Version: anyVersion(source)})
		}
		if source.IntN(2) == 0 {
			lists[i] = cell.Norm(lists[i])
		}
	}
	return lists
}

// P11.1 and P11.2: the example of the chapter.
func TestExample(t *testing.T) {
	wantOld(t, dead(1, 5), 15, 10, true)
	wantOld(t, dead(1, 5), 14, 10, false)
	l := list(row(1, dead(1, 5)))
	wantCells(t, "Cells at 15", purge.Cells(l, nil, 15, 10), nil)
	wantCells(t, "Cells at 14", purge.Cells(l, nil, 14, 10), l)
	wantCells(t, "Cells with the key in another list", purge.Cells(l, [][]api.Cell{l}, 15, 10), l)
}

// P11.1: just grace more, one less, one more.
func TestOldAtItsEdge(t *testing.T) {
	for _, local := range []int{-20, -10, -1, 0, 1, 7, 1 << 40} {
		for _, grace := range []int{0, 1, 2, 10, 1 << 41} {
			wantOld(t, dead(0, local), local+grace-1, grace, false)
			wantOld(t, dead(0, local), local+grace, grace, true)
			wantOld(t, dead(0, local), local+grace+1, grace, true)
		}
	}
}

// P11.1: a live version is never old, whatever its Local says.
func TestLiveIsNotOld(t *testing.T) {
	for _, now := range edgeNumbers() {
		for _, grace := range edgeNumbers() {
			wantOld(t, api.Version{}, now, grace, false)
			wantOld(t, live(now, 1), now, grace, false)
			for _, local := range edgeNumbers() {
				wantOld(t, api.Version{Time: 1, Local: local}, now, grace, false)
			}
		}
	}
}

// P11.1: neither the time of a deletion nor what it has as value is looked at.
func TestOldByLocalAlone(t *testing.T) {
	for _, time := range edgeNumbers() {
		v := api.Version{Time: time, Dead: true, Local: 5, Value: api.Value{Kind: api.Str, N: 3, S: "x"}}
		wantOld(t, v, 15, 10, true)
		wantOld(t, v, 14, 10, false)
	}
}

// P11.1: grace below 0 counts as 0.
func TestGraceBelowZero(t *testing.T) {
	for _, grace := range []int{0, -1, -10, math.MinInt + 1, math.MinInt} {
		for _, local := range []int{-3, 0, 5, math.MaxInt} {
			wantOld(t, dead(0, local), local-1, grace, false)
			wantOld(t, dead(0, local), local, grace, true)
		}
		wantOld(t, dead(0, 0), math.MinInt, grace, false)
		wantOld(t, dead(0, math.MinInt), math.MinInt, grace, true)
		wantOld(t, dead(0, math.MinInt), math.MaxInt, grace, true)
		wantOld(t, dead(0, math.MaxInt), math.MinInt, grace, false)
	}
}

// P11.1: sums and differences are those of whole numbers of any size.
func TestOldAtTheEnds(t *testing.T) {
	wantOld(t, dead(0, math.MinInt), math.MaxInt, math.MaxInt, true)
	wantOld(t, dead(0, math.MinInt), -1, math.MaxInt, true)
	wantOld(t, dead(0, math.MinInt), -2, math.MaxInt, false)
	wantOld(t, dead(0, math.MinInt), 0, math.MaxInt, true)
	wantOld(t, dead(0, math.MaxInt), math.MaxInt, 1, false)
	wantOld(t, dead(0, math.MaxInt), math.MaxInt, math.MaxInt, false)
	wantOld(t, dead(0, math.MaxInt), math.MinInt, math.MaxInt, false)
	wantOld(t, dead(0, 1), math.MaxInt, math.MaxInt, false)
	wantOld(t, dead(0, 0), math.MaxInt, math.MaxInt, true)
	wantOld(t, dead(0, -1), math.MaxInt, math.MaxInt, true)
}

// P11.1: against the slow form.
func TestOldAgainstSlow(t *testing.T) {
	for _, now := range edgeNumbers() {
		for _, grace := range edgeNumbers() {
			for _, local := range edgeNumbers() {
				wantOld(t, dead(0, local), now, grace, slowOld(dead(0, local), now, grace))
			}
		}
	}
	source := rand.New(rand.NewPCG(11, 0))
	for range 20000 {
		v := api.Version{Dead: source.IntN(5) > 0, Local: int(source.Uint64())}
		now, grace := int(source.Uint64()), int(source.Uint64())
		wantOld(t, v, now, grace, slowOld(v, now, grace))
	}
}

// P11.2: no cells, no others, others that are empty or nil.
func TestCellsOfNone(t *testing.T) {
	for _, l := range [][]api.Cell{nil, {}} {
		for _, others := range [][][]api.Cell{nil, {}, {nil}, {{}, nil}, {list(row(1, dead(1, 1)))}} {
			wantCells(t, "Cells of none", purge.Cells(l, others, 100, 0), nil)
		}
	}
	l := list(row(1, dead(1, 1)), row(2, live(1, 1)), row(3, dead(1, 50)))
	for _, others := range [][][]api.Cell{nil, {}, {nil}, {{}}, {nil, {}, nil}} {
		wantCells(t, "Cells with no others", purge.Cells(l, others, 59, 10), l[1:])
		wantCells(t, "Cells with no others", purge.Cells(l, others, 60, 10), l[1:2])
		wantCells(t, "Cells with no others", purge.Cells(l, others, 10, 10), l)
	}
}

// P11.2 and P11.3: a key in the first of the others, in the last, in all of them, with whatever version: its deletion stays.
func TestKeyElsewhere(t *testing.T) {
	mark := row(2, dead(5, 5))
	l := list(row(1, dead(5, 5)), mark, row(3, dead(5, 5)))
	far := row(9, dead(5, 5))
	for _, v := range []api.Version{{}, live(1, 1), live(9, 1), dead(1, 1), dead(5, 5), dead(9, 9), {Local: 3}} {
		there := row(2, v)
		for _, others := range [][][]api.Cell{
			{{there}},
			{{there}, {far}, nil},
			{nil, {far}, {there}},
			{{there, far}, {there}, {far, there}},
			{{far, there, far}},
			{{row(4, v), there, row(0, v)}},
		} {
			wantCells(t, "Cells with the key elsewhere", purge.Cells(l, others, 100, 10), list(mark))
		}
	}
}

// P11.2: another key is another one, by each of its parts.
func TestKeysByAllParts(t *testing.T) {
	k := api.Key{Table: "t", Part: "p", Row: 1, Column: "c"}
	l := list(api.Cell{Key: k, Version: dead(1, 1)})
	for _, other := range []api.Key{
		{},
		{Table: "u", Part: "p", Row: 1, Column: "c"},
		{Table: "t", Part: "q", Row: 1, Column: "c"},
		{Table: "t", Part: "p", Row: 2, Column: "c"},
		{Table: "t", Part: "p", Row: 1, Column: "d"},
		{Table: "t", Part: "p", Row: 1},
		{Table: "tp", Row: 1, Column: "c"},
	} {
		others := [][]api.Cell{list(api.Cell{Key: other, Version: dead(1, 1)})}
		wantCells(t, "Cells with a key nearby", purge.Cells(l, others, 100, 10), nil)
		at := list(api.Cell{Key: other, Version: dead(1, 1)})
		wantCells(t, "Cells with that key", purge.Cells(at, others, 100, 10), at)
	}
}

// P11.2: cells that are not sorted, and keys that come twice: what is old is asked of the versions joined.
func TestNormFirst(t *testing.T) {
	l := list(row(3, dead(1, 1)), row(1, live(2, 1)), row(2, dead(1, 1)), row(1, dead(1, 1)), row(2, dead(1, 99)), row(3, dead(2, 2)), row(0, live(1, 1)))
	wantCells(t, "Cells", purge.Cells(l, nil, 100, 10), list(row(0, live(1, 1)), row(1, live(2, 1)), row(2, dead(1, 99))))
	l = list(row(1, live(1, 1)), row(1, dead(1, 1)))
	wantCells(t, "a live version that is deleted", purge.Cells(l, nil, 100, 10), nil)
	wantCells(t, "a live version that is deleted, and elsewhere", purge.Cells(l, [][]api.Cell{l}, 100, 10), l[1:])
	l = list(row(1, dead(1, 1)), row(1, live(2, 1)))
	wantCells(t, "a deletion that is written over", purge.Cells(l, nil, 100, 10), l[1:])
}

// P11.2: cells that may not be are taken as they are; of versions that are alike the first one stays.
func TestCellsThatAreNotGood(t *testing.T) {
	worded := api.Version{Time: 3, Dead: true, Local: 4, Value: api.Value{Kind: 9, N: 1, S: "x"}}
	l := list(api.Cell{Version: worded}, row(1, api.Version{Local: 4}), row(2, worded), row(2, dead(3, 4)))
	wantCells(t, "old ones", purge.Cells(l, nil, 14, 10), l[1:2])
	wantCells(t, "young ones", purge.Cells(l, nil, 13, 10), l[:3])
	wantCells(t, "old ones with others", purge.Cells(l, [][]api.Cell{{{}}, {row(2, live(1, 1))}}, 14, 10), l[:3])
}

// P11.2: at the ends of the numbers.
func TestCellsAtTheEnds(t *testing.T) {
	first, last := row(1, dead(1, math.MinInt)), row(2, dead(1, math.MaxInt))
	l := list(first, last)
	wantCells(t, "the greatest grace", purge.Cells(l, nil, math.MaxInt, math.MaxInt), list(last))
	wantCells(t, "the least grace", purge.Cells(l, nil, math.MaxInt, math.MinInt), nil)
	wantCells(t, "the least now", purge.Cells(l, nil, math.MinInt, math.MinInt), list(last))
	wantCells(t, "the least now", purge.Cells(l, nil, math.MinInt, 1), l)
}

// P11.2: against the slow form.
func TestCellsAgainstSlow(t *testing.T) {
	source := rand.New(rand.NewPCG(12, 0))
	for range 4000 {
		lists := anyLists(source, 1+source.IntN(5), 10)
		now, grace := source.IntN(15), source.IntN(12)-1
		if source.IntN(5) == 0 {
			now, grace = anyOf(source, edgeNumbers()), anyOf(source, edgeNumbers())
		}
		wantCells(t, "Cells", purge.Cells(lists[0], lists[1:], now, grace), slowCells(lists[0], lists[1:], now, grace))
	}
}

// P11.3: no live cell goes, nor a deletion that is not Old, nor one whose key is anywhere else.
func TestWhatStays(t *testing.T) {
	source := rand.New(rand.NewPCG(13, 0))
	for range 2000 {
		lists := anyLists(source, 1+source.IntN(5), 10)
		now, grace := source.IntN(15), source.IntN(12)-1
		left := purge.Cells(lists[0], lists[1:], now, grace)
		for _, c := range cell.Norm(lists[0]) {
			mayGo := c.Version.Dead && purge.Old(c.Version, now, grace) && !slowHas(lists[1:], c.Key)
			if mayGo == slices.Contains(left, c) {
				t.Fatalf("%v of %v with %v at %d, grace %d: %v", c, lists[0], lists[1:], now, grace, left)
			}
		}
		if !cell.Sorted(left) {
			t.Fatalf("not sorted: %v", left)
		}
	}
}

// P11.2: long lists, in time that a search through all others for each deletion would not have.
func TestLongLists(t *testing.T) {
	const many = 100000
	var l, other []api.Cell
	for n := range many {
		l = append(l, row(n, dead(1, 1)))
		other = append(other, row(many-1-n+many/2, live(1, 1)))
	}
	wantCells(t, "Cells", purge.Cells(l, [][]api.Cell{other}, 100, 10), l[many/2:])
	wantCells(t, "Table", purge.Table(l, nil, other, 100, 10), l[many/2:])
}
