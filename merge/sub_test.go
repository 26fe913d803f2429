package merge_test

import (
	"math"
	"math/rand/v2"
	"slices"
	"strings"
	"testing"

	"skerry/api"
	"skerry/cell"
	"skerry/merge"
)

// wantSub asks Over, too.
func wantSub(t *testing.T, what string, a, b []api.Cell, want ...api.Cell) {
	t.Helper()
	wantCells(t, "Sub: "+what, merge.Sub(a, b), want)
	if got := merge.Over(a, b); got != (len(want) == 0) {
		t.Fatalf("Over: %s: %v", what, got)
	}
}

// slowSub looks for each key in all of b.
func slowSub(a, b []api.Cell) []api.Cell {
	var out []api.Cell
	for _, x := range slowEach([][]api.Cell{a}) {
		lacks := true
		for _, c := range b {
			if c.Key == x.cell.Key && spelt(c.Version) >= spelt(x.cell.Version) {
				lacks = false
			}
		}
		if lacks {
			out = append(out, x.cell)
		}
	}
	return out
}

// P10.2: a list with itself, and with none.
func TestSubOfOne(t *testing.T) {
	a := list(row(1, live(1, 1)), row(2, dead(2, 2)), row(3, text(3, "x")))
	wantSub(t, "nil and nil", nil, nil)
	wantSub(t, "empty and empty", list(), list())
	wantSub(t, "nil and empty", nil, list())
	wantSub(t, "itself", a, a)
	wantSub(t, "a copy", a, slices.Clone(a))
	wantSub(t, "none of it", nil, a)
	wantSub(t, "empty of it", list(), a)
	wantSub(t, "it of none", a, nil, a...)
	wantSub(t, "it of empty", a, list(), a...)
	wantSub(t, "one of none", a[:1], nil, a[0])
}

// P10.2: all keys are in the other one, with lesser, the same or greater versions.
func TestSubByVersions(t *testing.T) {
	for i, these := range rising() {
		for j, those := range rising() {
			for _, v := range these {
				for _, w := range those {
					a, b := list(row(1, v), row(2, v), row(3, v)), list(row(1, w), row(2, w), row(3, w))
					if i > j {
						wantSub(t, "greater versions", a, b, a...)
					} else {
						wantSub(t, "versions that are not greater", a, b)
					}
				}
			}
		}
	}
}

// P10.2: keys that the other one has not: ahead of its first one, between, and behind its last one.
func TestSubByKeys(t *testing.T) {
	v := live(1, 1)
	all := list(row(math.MinInt, v), row(1, v), row(2, v), row(3, v), row(4, v), row(5, v), row(math.MaxInt, v))
	for have := range 1 << len(all) {
		var b, lacks []api.Cell
		for i, c := range all {
			if have>>i&1 == 1 {
				b = append(b, c)
			} else {
				lacks = append(lacks, c)
			}
		}
		wantSub(t, "some of the keys", all, b, lacks...)
		wantSub(t, "all of the keys", b, all)
		wantSub(t, "other keys", b, lacks, b...)
		wantSub(t, "other keys", lacks, b, lacks...)
	}
	other := api.Cell{Key: api.Key{Table: "t", Part: "q", Row: 1, Column: "c"}, Version: live(9, 9)}
	wantSub(t, "a row of another partition", list(row(1, v)), list(other), row(1, v))
	other.Key = api.Key{Table: "t", Part: "p", Row: 1}
	wantSub(t, "the mark of the row", list(row(1, v)), list(other), row(1, v))
	other.Key = api.Key{Table: "u", Part: "p", Row: 1, Column: "c"}
	wantSub(t, "a row of another table", list(row(1, v)), list(other), row(1, v))
}

// P10.2: some are lacking, some lesser, some not.
func TestSubMixed(t *testing.T) {
	a := list(row(1, live(5, 1)), row(2, live(5, 1)), row(3, live(5, 1)), row(4, dead(5, 1)), row(5, live(5, 1)), row(6, live(5, 2)))
	b := list(row(0, live(9, 9)), row(2, live(4, 9)), row(3, live(6, 0)), row(4, live(5, 9)), row(5, dead(5, 0)), row(6, live(5, 1)), row(7, live(9, 9)))
	wantSub(t, "of each kind", a, b, a[0], a[1], a[3], a[5])
	wantSub(t, "the other way", b, a, b[0], b[2], b[4], b[6])
}

// P10.2: lists that are not Sorted are taken as Norm of them.
func TestSubNotSorted(t *testing.T) {
	a := list(row(3, live(1, 1)), row(1, live(1, 1)), row(3, live(3, 1)), row(2, live(2, 1)))
	wantSub(t, "a of none", a, nil, row(1, live(1, 1)), row(2, live(2, 1)), row(3, live(3, 1)))
	wantSub(t, "a of itself", a, a)
	wantSub(t, "of a sorted one", a, list(row(1, live(1, 1)), row(2, live(1, 1)), row(3, live(2, 1))), row(2, live(2, 1)), row(3, live(3, 1)))
	b := list(row(2, live(1, 1)), row(1, live(0, 1)), row(2, live(5, 1)), row(1, live(1, 0)))
	wantSub(t, "of one that is not sorted", a, b, row(1, live(1, 1)), row(3, live(3, 1)))
	wantSub(t, "the other way", b, a, row(2, live(5, 1)))
	alike := list(row(1, api.Version{Local: 1}), row(1, api.Version{Local: 2}))
	wantSub(t, "versions that are alike in one list", alike, nil, row(1, api.Version{Local: 1}))
}

// P10.2 and R1: against the slow form, with cells that are not good among them.
func TestSubAgainstSlow(t *testing.T) {
	source := rand.New(rand.NewPCG(5, 0))
	for range 4000 {
		lists := anyLists(source, 2, 12)
		wantSub(t, "any lists", lists[0], lists[1], slowSub(lists[0], lists[1])...)
		lists = goodLists(source, 2, 30)
		wantSub(t, "good lists", lists[0], lists[1], slowSub(lists[0], lists[1])...)
	}
}

// P10.3: with what it lacked a list has all of both.
func TestSubMakesWhole(t *testing.T) {
	source := rand.New(rand.NewPCG(6, 0))
	for range 3000 {
		lists := goodLists(source, 2, 20)
		a, b := lists[0], lists[1]
		wantCells(t, "All(b, Sub(a, b))", merge.All(b, merge.Sub(a, b)), merge.All(a, b))
		lists = anyLists(source, 2, 12)
		a, b = lists[0], lists[1]
		if got, want := merge.All(b, merge.Sub(a, b)), merge.All(a, b); !alike(got, want) {
			t.Fatalf("All(b, Sub(a, b)) of any lists:\n%v\nwant\n%v", got, want)
		}
	}
}

// alike: the same keys, with versions of which none is greater.
func alike(a, b []api.Cell) bool {
	return slices.EqualFunc(a, b, func(c, d api.Cell) bool {
		return c.Key == d.Key && spelt(c.Version) == spelt(d.Version)
	})
}

// P10.3: Over both ways just if the keys are the same and the versions alike.
func TestOverBothWays(t *testing.T) {
	source := rand.New(rand.NewPCG(7, 0))
	both := 0
	for range 4000 {
		lists := anyLists(source, 2, 3)
		a, b := lists[0], lists[1]
		if source.IntN(2) == 0 {
			b = twist(source, a)
		}
		got := merge.Over(a, b) && merge.Over(b, a)
		if got != alike(merge.All(a), merge.All(b)) {
			t.Fatalf("Over both ways of\n%v and\n%v: %v", a, b, got)
		}
		if got && len(a) > 0 {
			both++
		}
	}
	if both < 500 {
		t.Errorf("only %d pairs were alike", both)
	}
}

// twist: the list in another order, some cells twice, and what is not looked at changed.
func twist(source *rand.Rand, l []api.Cell) []api.Cell {
	out := append(slices.Clone(l), l[:source.IntN(len(l)+1)]...)
	source.Shuffle(len(out), func(i, j int) { out[i], out[j] = out[j], out[i] })
	for i := range out {
		if v := &out[i].Version; v.Dead {
			v.Value.N = source.IntN(100)
		} else {
			v.Local = source.IntN(100)
		}
	}
	return out
}

// partList: three tables of three partitions each, two of which begin with another's text.
func partList() []api.Cell {
	var l []api.Cell
	for _, table := range []string{"a", "t", "tt"} {
		for _, part := range []string{"k", "p", "pp"} {
			for n := range 3 {
				l = append(l, api.Cell{Key: api.Key{Table: table, Part: part, Row: n - 1, Column: "c"}, Version: live(n, n)})
			}
		}
	}
	return l
}

// P10.2: Part of each partition, and of such as are not there.
func TestPart(t *testing.T) {
	l := partList()
	if !cell.Sorted(l) {
		t.Fatal("the test's list is not sorted")
	}
	i := 0
	for _, table := range []string{"a", "t", "tt"} {
		for _, part := range []string{"k", "p", "pp"} {
			wantCells(t, "Part "+table+" "+part, merge.Part(l, table, part), l[i:i+3])
			i += 3
		}
	}
	long := strings.Repeat("x", 1000)
	for _, none := range [][2]string{
		{"", ""}, {"a", ""}, {"", "k"}, {"k", "a"}, {"p", "t"}, {"T", "p"}, {"t", "P"}, {"t", "l"}, {"t", "q"}, {"b", "p"}, {"u", "p"}, {"t", "a"},
		{"ta", "k"}, {"tp", ""}, {"t", "p\x00"}, {"t\x00", "p"}, {"\xff", "\xff"}, {"t/p", ""}, {"%", "/"}, {long, "p"}, {"t", long}, {"ttt", "p"}, {"t", "ppp"},
	} {
		wantCells(t, "Part of none", merge.Part(l, none[0], none[1]), nil)
	}
	wantCells(t, "Part of nil", merge.Part(nil, "t", "p"), nil)
	wantCells(t, "Part of an empty list", merge.Part(list(), "", ""), nil)
}

// P10.2: texts that are no names are looked for as others are.
func TestPartNotGood(t *testing.T) {
	l := cell.Norm(list(
		api.Cell{},
		api.Cell{Key: api.Key{Row: 5}},
		api.Cell{Key: api.Key{Part: "p"}},
		api.Cell{Key: api.Key{Table: "T!", Part: "\x00"}},
		api.Cell{Key: api.Key{Table: "T!", Part: "\x00", Column: "?"}},
		api.Cell{Key: api.Key{Table: "t"}},
	))
	wantCells(t, "Part of empty texts", merge.Part(l, "", ""), list(api.Cell{}, api.Cell{Key: api.Key{Row: 5}}))
	wantCells(t, "Part of an empty table", merge.Part(l, "", "p"), list(api.Cell{Key: api.Key{Part: "p"}}))
	wantCells(t, "Part of an empty partition", merge.Part(l, "t", ""), list(api.Cell{Key: api.Key{Table: "t"}}))
	wantCells(t, "Part of texts that are no names", merge.Part(l, "T!", "\x00"), l[3:5])
}

// P10.2: a list that is not Sorted is taken as its Norm.
func TestPartNotSorted(t *testing.T) {
	other := api.Cell{Key: api.Key{Table: "t", Part: "q", Row: 1, Column: "c"}, Version: live(9, 9)}
	l := list(row(3, live(1, 1)), other, row(1, live(2, 1)), row(3, live(3, 1)), row(1, live(1, 9)))
	wantCells(t, "Part", merge.Part(l, "t", "p"), list(row(1, live(2, 1)), row(3, live(3, 1))))
	wantCells(t, "Part of the other", merge.Part(l, "t", "q"), list(other))
	alike := list(row(1, api.Version{Local: 1}), row(1, api.Version{Local: 2}))
	wantCells(t, "Part of versions that are alike", merge.Part(alike, "t", "p"), list(row(1, api.Version{Local: 1})))
}

// P10.2: Part against the slow form.
func TestPartAgainstSlow(t *testing.T) {
	source := rand.New(rand.NewPCG(8, 0))
	for range 2000 {
		l := anyLists(source, 1, 20)[0]
		k := anyKey(source)
		if len(l) > 0 && source.IntN(4) > 0 {
			k = anyOf(source, l).Key
		}
		var want []api.Cell
		for _, x := range slowEach([][]api.Cell{l}) {
			if x.cell.Key.Table == k.Table && x.cell.Key.Part == k.Part {
				want = append(want, x.cell)
			}
		}
		wantCells(t, "Part", merge.Part(l, k.Table, k.Part), want)
	}
}
