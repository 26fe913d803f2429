package merge_test

import (
	"encoding/binary"
	"iter"
	"maps"
	"math"
	"math/rand/v2"
	"slices"
	"testing"

	"skerry/api"
	"skerry/cell"
	"skerry/key"
	"skerry/merge"
)

// told is one that Each tells.
type told struct {
	cell  api.Cell
	count int
}

func live(time, n int) api.Version {
	return api.Version{Time: time, Value: api.Value{Kind: api.Int, N: n}}
}

func text(time int, s string) api.Version {
	return api.Version{Time: time, Value: api.Value{Kind: api.Str, S: s}}
}

func dead(time, local int) api.Version {
	return api.Version{Time: time, Dead: true, Local: local}
}

// at: a cell of a column of the partition p.
func at(column string, v api.Version) api.Cell {
	return api.Cell{Key: api.Key{Table: "t", Part: "p", Row: 1, Column: column}, Version: v}
}

func row(n int, v api.Version) api.Cell {
	return api.Cell{Key: api.Key{Table: "t", Part: "p", Row: n, Column: "c"}, Version: v}
}

func list(l ...api.Cell) []api.Cell { return l }

func tell(each iter.Seq2[api.Cell, int]) []told {
	var out []told
	for c, n := range each {
		out = append(out, told{c, n})
	}
	return out
}

func wantCells(t *testing.T, what string, got, want []api.Cell) {
	t.Helper()
	if !slices.Equal(got, want) {
		t.Fatalf("%s:\n%v\nwant\n%v", what, got, want)
	}
}

// wantEach asks All, too.
func wantEach(t *testing.T, what string, lists [][]api.Cell, want ...told) {
	t.Helper()
	if got := tell(merge.Each(lists...)); !slices.Equal(got, want) {
		t.Fatalf("Each of %s:\n%v\nwant\n%v", what, got, want)
	}
	var cells []api.Cell
	for _, x := range want {
		cells = append(cells, x.cell)
	}
	wantCells(t, "All of "+what, merge.All(lists...), cells)
}

// spelt: bytes that stand in the order that chapter 5 asks of versions: with 2^63 added, a number below 0 stands ahead of the others.
func spelt(v api.Version) string {
	number := func(b []byte, n int) []byte {
		return binary.BigEndian.AppendUint64(b, uint64(n)+1<<63)
	}
	b := number(nil, v.Time)
	if v.Dead {
		return string(number(append(b, 1), v.Local))
	}
	b = number(append(b, 0), v.Value.Kind)
	return string(number(b, v.Value.N)) + v.Value.S
}

// slowEach takes key by key, and of each of them all cells of all lists, one behind the other.
func slowEach(lists [][]api.Cell) []told {
	found := map[string]told{}
	for _, l := range lists {
		met := map[string]bool{}
		for _, c := range l {
			k := string(key.Bytes(c.Key))
			x, there := found[k]
			if !there || spelt(c.Version) > spelt(x.cell.Version) {
				x.cell = c
			}
			if !met[k] {
				x.count++
			}
			met[k] = true
			found[k] = x
		}
	}
	var out []told
	for _, k := range slices.Sorted(maps.Keys(found)) {
		out = append(out, found[k])
	}
	return out
}

func anyOf[T any](source *rand.Rand, l []T) T {
	return l[source.IntN(len(l))]
}

func edgeNumbers() []int {
	return []int{math.MinInt, -1, 0, 1, math.MaxInt}
}

// anyKey: of few texts, so that keys come again, also such as may not be.
func anyKey(source *rand.Rand) api.Key {
	texts := []string{"", "a", "b", "a\x00", "\xff"}
	return api.Key{Table: anyOf(source, texts), Part: anyOf(source, texts), Row: anyOf(source, edgeNumbers()), Column: anyOf(source, texts)}
}

// anyVersion: of few parts, so that two of them are often alike, also such as may not be.
func anyVersion(source *rand.Rand) api.Version {
	v := api.Version{Time: source.IntN(2), Dead: source.IntN(3) == 0, Local: source.IntN(2)}
	if source.IntN(4) == 0 {
		v.Time = anyOf(source, edgeNumbers())
	}
	v.Value = api.Value{Kind: source.IntN(3), N: source.IntN(2), S: anyOf(source, []string{"", "a", "\xff"})}
	return v
}

// goodCell: one of those that may be, of few keys.
func goodCell(source *rand.Rand) api.Cell {
	k := api.Key{Table: anyOf(source, []string{"t", "u"}), Part: anyOf(source, []string{"p", "\x00"}), Row: source.IntN(3) - 1, Column: anyOf(source, []string{"", "c", "d"})}
	time := source.IntN(3)
	switch {
	case source.IntN(3) == 0:
		return api.Cell{Key: k, Version: dead(time, source.IntN(2))}
	case k.Column == "":
		return api.Cell{Key: k, Version: api.Version{Time: time}}
	case source.IntN(2) == 0:
		return api.Cell{Key: k, Version: live(time, source.IntN(2))}
	}
	return api.Cell{Key: k, Version: text(time, anyOf(source, []string{"", "a"}))}
}

// anyLists: of few keys; some of the lists are sorted, some are empty.
func anyLists(source *rand.Rand, count, most int) [][]api.Cell {
	keys := make([]api.Key, 1+source.IntN(12))
	for i := range keys {
		keys[i] = anyKey(source)
	}
	return listsOf(source, count, most, func() api.Cell {
		return api.Cell{Key: anyOf(source, keys), Version: anyVersion(source)}
	})
}

func goodLists(source *rand.Rand, count, most int) [][]api.Cell {
	return listsOf(source, count, most, func() api.Cell { return goodCell(source) })
}

func listsOf(source *rand.Rand, count, most int, one func() api.Cell) [][]api.Cell {
	lists := make([][]api.Cell, count)
	for i := range lists {
		for range source.IntN(most + 1) {
			lists[i] = append(lists[i], one())
		}
		if source.IntN(2) == 0 {
			lists[i] = cell.Norm(lists[i])
		}
	}
	return lists
}

// P10.1 and P10.2: the example of the chapter.
func TestExample(t *testing.T) {
	a := list(at("a", live(1, 0)), at("b", live(2, 0)))
	b := list(at("b", live(3, 0)), at("c", live(1, 0)))
	wantEach(t, "the example", [][]api.Cell{a, b}, told{at("a", live(1, 0)), 1}, told{at("b", live(3, 0)), 2}, told{at("c", live(1, 0)), 1})
	wantCells(t, "Sub", merge.Sub(a, b), list(at("a", live(1, 0))))
}

// P10.1: no list, empty ones, and one alone.
func TestFewLists(t *testing.T) {
	wantEach(t, "no list", nil)
	wantEach(t, "no list", [][]api.Cell{})
	wantEach(t, "nil", [][]api.Cell{nil})
	wantEach(t, "an empty list", [][]api.Cell{{}})
	wantEach(t, "three of none", [][]api.Cell{nil, {}, nil})
	one := list(row(1, live(1, 1)), row(2, dead(2, 2)), row(3, text(3, "x")))
	want := []told{{one[0], 1}, {one[1], 1}, {one[2], 1}}
	wantEach(t, "one list", [][]api.Cell{one}, want...)
	wantEach(t, "one cell", [][]api.Cell{one[:1]}, want[:1]...)
	wantEach(t, "one list behind none", [][]api.Cell{nil, {}, one}, want...)
	wantEach(t, "one list ahead of none", [][]api.Cell{one, {}, nil}, want...)
	wantEach(t, "one list among none", [][]api.Cell{{}, one, nil}, want...)
}

// P10.1: a key that one, some and all lists have; the place of a list that has no more is taken by others.
func TestCounts(t *testing.T) {
	v := live(1, 1)
	lists := [][]api.Cell{
		list(row(1, v), row(4, v), row(5, v)),
		list(row(4, v)),
		nil,
		list(row(2, v), row(4, v), row(9, v)),
		list(row(2, v), row(3, v), row(4, v), row(5, v), row(9, v)),
		list(row(0, v), row(4, v), row(9, v)),
	}
	wantEach(t, "six lists", lists, told{row(0, v), 1}, told{row(1, v), 1}, told{row(2, v), 2}, told{row(3, v), 1}, told{row(4, v), 5}, told{row(5, v), 2}, told{row(9, v), 3})
	same := list(row(1, v), row(2, v))
	wantEach(t, "one list four times", [][]api.Cell{same, same, same, same}, told{row(1, v), 4}, told{row(2, v), 4})
	wantEach(t, "lists one behind the other", [][]api.Cell{{row(5, v), row(6, v)}, {row(3, v), row(4, v)}, {row(1, v), row(2, v)}},
		told{row(1, v), 1}, told{row(2, v), 1}, told{row(3, v), 1}, told{row(4, v), 1}, told{row(5, v), 1}, told{row(6, v), 1})
}

// P10.1: keys that differ in one part alone are others, and stand by key's Cmp.
func TestKeysApart(t *testing.T) {
	v := live(1, 1)
	of := func(table, part string, row int, column string) api.Cell {
		return api.Cell{Key: api.Key{Table: table, Part: part, Row: row, Column: column}, Version: v}
	}
	rising := []api.Cell{
		of("", "", 0, ""), of("t", "p", math.MinInt, "c"), of("t", "p", -1, "c"), of("t", "p", 0, ""), of("t", "p", 0, "c"), of("t", "p", 0, "ca"), of("t", "p", 0, "d"),
		of("t", "p", 1, ""), of("t", "p", math.MaxInt, ""), of("t", "p\x00", 0, ""), of("t", "pa", 0, ""), of("t", "\xff", 0, ""), of("ta", "p", 0, ""), of("u", "", 0, ""),
	}
	var want []told
	var lists [][]api.Cell
	for i, c := range rising {
		want = append(want, told{c, 1})
		lists = append(lists, list(rising[len(rising)-1-i]))
	}
	wantEach(t, "lists of one cell, the last first", lists, want...)
	for k := 1; k <= len(rising); k++ {
		dealt := make([][]api.Cell, k)
		for i, c := range rising {
			dealt[i%k] = append(dealt[i%k], c)
		}
		wantEach(t, "cells dealt out", dealt, want...)
		slices.Reverse(dealt)
		wantEach(t, "cells dealt out from the last list on", dealt, want...)
	}
}

// versions that rise: of each place those that are alike, what is not looked at being another.
func rising() [][]api.Version {
	return [][]api.Version{
		{live(math.MinInt, 5)},
		{live(0, math.MaxInt)},
		{{Time: 1}, {Time: 1, Local: 7}},
		{live(1, math.MinInt), {Time: 1, Local: -1, Value: api.Value{Kind: api.Int, N: math.MinInt}}},
		{live(1, 1)},
		{text(1, "")},
		{text(1, "a"), {Time: 1, Local: math.MaxInt, Value: api.Value{Kind: api.Str, S: "a"}}},
		{text(1, "a\x00")},
		{text(1, "\xff")},
		{dead(1, math.MinInt), {Time: 1, Dead: true, Local: math.MinInt, Value: api.Value{Kind: api.Int, N: 9}}},
		{dead(1, 0)},
		{dead(1, 1), {Time: 1, Dead: true, Local: 1, Value: api.Value{Kind: api.Str, S: "x"}}},
		{live(2, 0)},
		{dead(math.MaxInt, 0)},
	}
}

// P10.1: of two lists' versions the greater one; of those that are alike that of the first list.
func TestVersions(t *testing.T) {
	for i, lesser := range rising() {
		for j, greater := range rising() {
			for _, v := range lesser {
				for _, w := range greater {
					want := v
					if i < j {
						want = w
					}
					wantEach(t, "two versions", [][]api.Cell{{row(1, v)}, {row(1, w)}}, told{row(1, want), 2})
				}
			}
		}
	}
}

// P10.1: versions that are alike among others, in all places: the first list that has the greatest one counts.
func TestFirstListCounts(t *testing.T) {
	mark := func(local int) api.Version { return api.Version{Time: 5, Local: local} }
	for n := 1; n <= 9; n++ {
		for first := range n {
			var lists [][]api.Cell
			for i := range n {
				v := mark(i)
				if i < first {
					v = live(4, i)
				}
				lists = append(lists, list(row(i, live(0, 0)), row(100, v), row(200+i, live(0, 0))))
			}
			got := slices.DeleteFunc(tell(merge.Each(lists...)), func(x told) bool { return x.cell.Key.Row != 100 })
			if want := []told{{row(100, mark(first)), n}}; !slices.Equal(got, want) {
				t.Fatalf("%d lists, the greatest from %d on: %v, want %v", n, first, got, want)
			}
		}
	}
}

// P10.1: a list that is not Sorted is taken as its Norm; it counts once, however often it has a key.
func TestNotSorted(t *testing.T) {
	mixed := list(row(3, live(1, 1)), row(1, live(1, 1)), row(3, live(4, 1)), row(2, dead(1, 1)), row(1, live(1, 0)), row(3, live(2, 9)))
	wantEach(t, "a list that is not sorted", [][]api.Cell{mixed}, told{row(1, live(1, 1)), 1}, told{row(2, dead(1, 1)), 1}, told{row(3, live(4, 1)), 1})
	sorted := list(row(1, live(1, 2)), row(3, live(3, 0)))
	wantEach(t, "it with another", [][]api.Cell{mixed, sorted}, told{row(1, live(1, 2)), 2}, told{row(2, dead(1, 1)), 1}, told{row(3, live(4, 1)), 2})
	wantEach(t, "another with it", [][]api.Cell{sorted, mixed}, told{row(1, live(1, 2)), 2}, told{row(2, dead(1, 1)), 1}, told{row(3, live(4, 1)), 2})
	wantEach(t, "a list with one key twice", [][]api.Cell{{row(1, live(1, 1)), row(1, live(1, 1))}}, told{row(1, live(1, 1)), 1})
	wantEach(t, "two of them", [][]api.Cell{{row(1, live(2, 1)), row(1, live(1, 1))}, {row(1, live(1, 1)), row(1, live(3, 1))}}, told{row(1, live(3, 1)), 2})
	alike := list(row(1, api.Version{Local: 1}), row(1, api.Version{Local: 2}))
	wantEach(t, "versions that are alike in one list", [][]api.Cell{alike, {row(1, api.Version{Local: 3})}}, told{row(1, api.Version{Local: 1}), 2})
	wantEach(t, "a list that falls", [][]api.Cell{{row(2, live(1, 1)), row(1, live(1, 1))}}, told{row(1, live(1, 1)), 1}, told{row(2, live(1, 1)), 1})
	wantEach(t, "a last key that is out of order", [][]api.Cell{{row(2, live(1, 1)), row(3, live(1, 1)), row(1, live(1, 1))}}, told{row(1, live(1, 1)), 1}, told{row(2, live(1, 1)), 1}, told{row(3, live(1, 1)), 1})
}

// R1: cells that are not good are told as others are.
func TestNotGood(t *testing.T) {
	bad := []api.Cell{
		{},
		{Key: api.Key{Table: "T!", Part: "", Row: 1, Column: "%"}, Version: api.Version{Time: -1, Value: api.Value{Kind: 9, N: 1, S: "x"}}},
		{Key: api.Key{Table: "t", Part: "p", Column: "c"}, Version: api.Version{Dead: true, Value: api.Value{Kind: api.Int, N: 1}}},
	}
	wantEach(t, "cells that are not good", [][]api.Cell{bad, bad[1:]}, told{bad[0], 1}, told{bad[1], 2}, told{bad[2], 2})
	for _, versions := range rising() {
		for _, v := range versions {
			wantEach(t, "a zero key", [][]api.Cell{{{Version: v}}}, told{api.Cell{Version: v}, 1})
		}
	}
}

// P10.1: against the slow form.
func TestEachAgainstSlow(t *testing.T) {
	source := rand.New(rand.NewPCG(1, 0))
	for range 3000 {
		lists := anyLists(source, source.IntN(9), 12)
		wantEach(t, "any lists", lists, slowEach(lists)...)
	}
	for range 20 {
		lists := goodLists(source, 40+source.IntN(40), 60)
		wantEach(t, "many lists", lists, slowEach(lists)...)
	}
}

// P10.3: All is Norm of all lists, one behind the other.
func TestAllIsNorm(t *testing.T) {
	source := rand.New(rand.NewPCG(2, 0))
	for range 2000 {
		lists := anyLists(source, source.IntN(7), 10)
		wantCells(t, "All", merge.All(lists...), cell.Norm(slices.Concat(lists...)))
	}
}

// P10.1 and R3: a range may be left at any place, gone over again, and nested in itself.
func TestLeft(t *testing.T) {
	source := rand.New(rand.NewPCG(3, 0))
	lists := goodLists(source, 6, 12)
	want := slowEach(lists)
	each := merge.Each(lists...)
	for n := range len(want) + 1 {
		var got []told
		for c, count := range each {
			if len(got) == n {
				break
			}
			got = append(got, told{c, count})
		}
		if !slices.Equal(got, want[:n]) {
			t.Fatalf("left behind %d: %v, want %v", n, got, want[:n])
		}
	}
	i := 0
	for c, count := range each {
		if (told{c, count}) != want[i] {
			t.Fatalf("the outer range, %d: %v %d, want %v", i, c, count, want[i])
		}
		if got := tell(each); !slices.Equal(got, want) {
			t.Fatalf("the inner range: %v, want %v", got, want)
		}
		i++
	}
}

// P10.1: a function that said no is not asked again, wherever it said so.
func TestNotAskedAgain(t *testing.T) {
	v := live(1, 1)
	lists := [][]api.Cell{{row(1, v), row(2, v), row(3, v)}, {row(2, v), row(3, v)}}
	for stop := 1; stop <= 3; stop++ {
		asked := 0
		merge.Each(lists...)(func(api.Cell, int) bool {
			asked++
			return asked < stop
		})
		if asked != stop {
			t.Errorf("asked %d times, want %d", asked, stop)
		}
	}
}

// R3: two ranges that go on side by side do not touch each other.
func TestSideBySide(t *testing.T) {
	source := rand.New(rand.NewPCG(4, 0))
	lists := goodLists(source, 5, 10)
	each := merge.Each(lists...)
	next, stop := iter.Pull2(each)
	defer stop()
	other, stopOther := iter.Pull2(each)
	defer stopOther()
	for _, want := range slowEach(lists) {
		for _, one := range []func() (api.Cell, int, bool){next, other} {
			if c, n, ok := one(); !ok || (told{c, n}) != want {
				t.Fatalf("%v %d %v, want %v", c, n, ok, want)
			}
		}
	}
}
