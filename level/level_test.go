package level_test

import (
	"math"
	"testing"

	"skerry/api"
	"skerry/level"
)

// noLevels: those just beside the levels, the ends of ints, and such as are levels in 8, 16 or 32 bits alone.
func noLevels() []int {
	return []int{
		math.MinInt, math.MinInt + 1, math.MinInt + 2, math.MinInt + 3, -1 << 32, -1<<32 + 1, -256, -255, -3, -2, -1, 0,
		4, 5, 6, 255, 256, 257, 258, 259, 1<<16 + 1, 1<<32 + 1, 1<<32 + 2, 1<<32 + 3, math.MaxInt - 1, math.MaxInt,
	}
}

func levels() []int { return []int{1, 2, 3} }

func noCopies() []int {
	return []int{math.MinInt, math.MinInt + 1, math.MinInt / 2, -1 << 32, -3, -2, -1, 0}
}

func someCopies() []int {
	return []int{1, 2, 3, 4, 5, 6, 7, 8, 100, 101, 1<<31 - 1, 1 << 31, 1 << 32, 1<<32 + 1, 1 << 62, 1<<62 + 1, math.MaxInt - 2, math.MaxInt - 1, math.MaxInt}
}

func wantNeed(t *testing.T, l, copies, want int) {
	t.Helper()
	if got := level.Need(l, copies); got != want {
		t.Errorf("Need(%d, %d): %d, want %d", l, copies, got, want)
	}
}

func wantMeet(t *testing.T, read, write, copies int, want bool) {
	t.Helper()
	if got := level.Meet(read, write, copies); got != want {
		t.Errorf("Meet(%d, %d, %d): %v, want %v", read, write, copies, got, want)
	}
}

// P16.1 and P16.2: the example of the chapter.
func TestExample(t *testing.T) {
	wantNeed(t, api.Quorum, 3, 2)
	wantMeet(t, api.Quorum, api.Quorum, 3, true)
	wantMeet(t, api.One, api.Quorum, 3, false)
}

// P16.1: api's levels and no others are good.
func TestGood(t *testing.T) {
	for _, l := range []int{api.One, api.Quorum, api.All, 1, 2, 3} {
		if !level.Good(l) {
			t.Errorf("Good(%d): false", l)
		}
	}
	for _, l := range noLevels() {
		if level.Good(l) {
			t.Errorf("Good(%d): true", l)
		}
	}
	for l := -1000; l <= 1000; l++ {
		if level.Good(l) != (l >= api.One && l <= api.All) {
			t.Errorf("Good(%d): %v", l, level.Good(l))
		}
	}
}

// P16.1: how many answers each level needs, to the greatest int.
func TestNeed(t *testing.T) {
	for _, c := range []struct{ copies, one, quorum, all int }{
		{1, 1, 1, 1}, {2, 1, 2, 2}, {3, 1, 2, 3}, {4, 1, 3, 4}, {5, 1, 3, 5}, {6, 1, 4, 6}, {7, 1, 4, 7},
		{100, 1, 51, 100}, {101, 1, 51, 101}, {1 << 32, 1, 1<<31 + 1, 1 << 32}, {1<<32 + 1, 1, 1<<31 + 1, 1<<32 + 1},
		{math.MaxInt - 1, 1, 1 << 62, math.MaxInt - 1}, {math.MaxInt, 1, 1 << 62, math.MaxInt},
	} {
		wantNeed(t, api.One, c.copies, c.one)
		wantNeed(t, api.Quorum, c.copies, c.quorum)
		wantNeed(t, api.All, c.copies, c.all)
	}
}

// P16.1: a quorum is the least number that is more than half of the copies; no level needs more than there are.
func TestNeedOfFew(t *testing.T) {
	for copies := 1; copies <= 2000; copies++ {
		wantNeed(t, api.One, copies, 1)
		wantNeed(t, api.All, copies, copies)
		least := 0
		for 2*least <= copies {
			least++
		}
		wantNeed(t, api.Quorum, copies, least)
	}
}

// P16.1: nothing is needed at a level that is none, or of copies below 1.
func TestNeedOfNone(t *testing.T) {
	for _, l := range append(noLevels(), levels()...) {
		for _, copies := range noCopies() {
			wantNeed(t, l, copies, 0)
		}
	}
	for _, l := range noLevels() {
		for _, copies := range someCopies() {
			wantNeed(t, l, copies, 0)
		}
	}
}

// P16.1: each pair of levels, of few copies and of the most.
func TestMeet(t *testing.T) {
	const one, quorum, all = api.One, api.Quorum, api.All
	for _, c := range []struct {
		copies int
		meet   [3][3]bool // by read, then by write
	}{
		{1, [3][3]bool{{true, true, true}, {true, true, true}, {true, true, true}}},
		{2, [3][3]bool{{false, true, true}, {true, true, true}, {true, true, true}}},
		{3, [3][3]bool{{false, false, true}, {false, true, true}, {true, true, true}}},
		{4, [3][3]bool{{false, false, true}, {false, true, true}, {true, true, true}}},
		{5, [3][3]bool{{false, false, true}, {false, true, true}, {true, true, true}}},
		{1 << 62, [3][3]bool{{false, false, true}, {false, true, true}, {true, true, true}}},
		{math.MaxInt - 1, [3][3]bool{{false, false, true}, {false, true, true}, {true, true, true}}},
		{math.MaxInt, [3][3]bool{{false, false, true}, {false, true, true}, {true, true, true}}},
	} {
		for i, read := range []int{one, quorum, all} {
			for j, write := range []int{one, quorum, all} {
				wantMeet(t, read, write, c.copies, c.meet[i][j])
			}
		}
	}
}

// P16.1: none meets where the one, the other or both are no level, or where copies are below 1.
func TestMeetOfNone(t *testing.T) {
	for _, copies := range append(noCopies(), someCopies()...) {
		for _, none := range noLevels() {
			for _, l := range levels() {
				wantMeet(t, none, l, copies, false)
				wantMeet(t, l, none, copies, false)
			}
			for _, other := range noLevels() {
				wantMeet(t, none, other, copies, false)
			}
		}
	}
	for _, copies := range noCopies() {
		for _, read := range levels() {
			for _, write := range levels() {
				wantMeet(t, read, write, copies, false)
			}
		}
	}
}

// R3 and R4: a call's answer is the same whatever was asked ahead of it, and in whichever order.
func TestNothingIsChanged(t *testing.T) {
	type answers struct {
		good, parsed, meets bool
		need, level         int
		name                string
	}
	all := append(noLevels(), levels()...)
	copies := append(noCopies(), someCopies()...)
	texts := []string{"", "ONE", "one", "Quorum", "QUORUM", "aLL", "ALL", "ALLE", "none"}
	ask := func(i int) answers {
		l, c, s := all[i%len(all)], copies[i%len(copies)], texts[i%len(texts)]
		a := answers{good: level.Good(l), need: level.Need(l, c), name: level.Name(l)}
		a.level, a.parsed = level.Parse(s)
		a.meets = level.Meet(l, levels()[i%3], c)
		return a
	}
	const many = 3000
	var first [many]answers
	for i := range many {
		first[i] = ask(i)
	}
	for i := many - 1; i >= 0; i-- {
		if got := ask(i); got != first[i] {
			t.Fatalf("call %d: %v, and %v at first", i, got, first[i])
		}
	}
}

// R4: calls at the same time answer the same, and none writes what another one reads (asked with -race).
func TestAtTheSameTime(t *testing.T) {
	done := make(chan bool)
	const many = 8
	for range many {
		go func() {
			ok := true
			for range 200 {
				l, good := level.Parse("quorum")
				ok = ok && good && level.Good(l) && level.Name(l) == "QUORUM" && level.Need(l, 5) == 3 && level.Meet(l, l, 5)
			}
			done <- ok
		}()
	}
	for range many {
		if !<-done {
			t.Error("an answer is another one")
		}
	}
}
