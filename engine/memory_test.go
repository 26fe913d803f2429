package engine_test

import (
	"slices"
	"testing"

	"skerry/api"
	"skerry/disk"
	"skerry/engine"
)

// spoil changes a list and the room behind its end.
func spoil[T any](l []T, to T) {
	l = l[:cap(l)]
	for i := range l {
		l[i] = to
	}
}

// rich: an engine with tables and memory, whose tables Compact chooses.
func rich(t *testing.T) (*disk.Disk, *engine.Engine) {
	t.Helper()
	d := laid(t, 1000, run(1, 9), run(5, 12))
	e := open(t, d, 400, 2)
	must(t, e.Apply([]api.Cell{live(3, 7), dead(20, 1, 1)}))
	return d, e
}

// R3: levels are neither changed nor kept, and the room behind their end is neither changed nor looked at.
func TestLevelsStay(t *testing.T) {
	whole := []int{3, 1, 99, -4, 2, 7, 7, 7}
	before := slices.Clone(whole)
	d := disk.New(1000)
	e, errno := engine.Open(d, whole[:5], 2, 2)
	must(t, errno)
	for n := range 10 {
		must(t, e.Apply(run(n, n)))
	}
	if !slices.Equal(whole, before) {
		t.Errorf("levels: %v", whole)
	}
	spoil(whole, -77)
	for n := 10; n < 20; n++ {
		must(t, e.Apply(run(n, n)))
	}
	wantCells(t, "All", e.All(), run(0, 19))
}

// R3: the cells of an Apply are neither changed nor kept, whether they are taken, flushed or refused.
func TestCellsStay(t *testing.T) {
	behind := run(90, 95)
	for _, flush := range []int{3, 4, 400} {
		for _, l := range [][]api.Cell{{live(3, 1), live(1, 1), live(2, 1)}, {live(3, 1), {}}, {}} {
			whole := slices.Concat(l, behind)
			before := slices.Clone(whole)
			d := disk.New(1000)
			e := open(t, d, flush, 2)
			errno := e.Apply(whole[:len(l)])
			want(t, "Apply", errno == api.OK, len(l) == 3)
			wantCells(t, "the argument", whole, before)
			spoil(whole, dead(50, 50, 50))
			wantCells(t, "All", e.All(), run(1, 3)[:max(0, 3*len(l)-6)])
			wantCells(t, "All of an Open", open(t, d, flush, 2).All(), run(1, 3)[:max(0, 3*len(l)-6)])
		}
	}
}

// R3: an answer shares nothing with the engine, nor with another answer, its spare room neither.
func TestAnswersAreNew(t *testing.T) {
	_, e := rich(t)
	told := view(e)
	for range 2 {
		spoil(e.All(), dead(50, 50, 50))
		want(t, "what is told", view(e), told)
		spoil(e.Memory(), dead(50, 50, 50))
		want(t, "what is told", view(e), told)
		spoil(e.Part("t", "p"), dead(50, 50, 50))
		want(t, "what is told", view(e), told)
		spoil(e.Tables(), 77)
		want(t, "what is told", view(e), told)
		spoil(e.Sizes(), 77)
		want(t, "what is told", view(e), told)
	}
	_ = append(e.Tables(), 50)
	_ = append(e.All(), live(50, 50))
	want(t, "what is told", view(e), told)
	wantCompact(t, e, 0, 9, true, api.OK)
	wantNumbers(t, "Tables", e.Tables(), 3)
	wantNumbers(t, "Sizes", e.Sizes(), 12)
}

// R3: what was told stays as it was, whatever is done behind it.
func TestWhatWasToldStays(t *testing.T) {
	_, e := rich(t)
	cells, memory, part, tables, sizes := e.All(), e.Memory(), e.Part("t", "p"), e.Tables(), e.Sizes()
	copies := [][]api.Cell{slices.Clone(cells), slices.Clone(memory), slices.Clone(part)}
	must(t, e.Apply([]api.Cell{live(3, 9), live(0, 9), live(40, 1)}))
	must(t, e.Flush())
	wantCompact(t, e, 99, 0, true, api.OK)
	wantCells(t, "All", cells, copies[0])
	wantCells(t, "Memory", memory, copies[1])
	wantCells(t, "Part", part, copies[2])
	wantNumbers(t, "Tables", tables, 1, 2)
	wantNumbers(t, "Sizes", sizes, 9, 8)
}

// R4: two engines have two stores.
func TestTwoEngines(t *testing.T) {
	a, b := disk.New(1000), disk.New(1000)
	first, second := open(t, a, 2, 2), open(t, b, 400, 2)
	must(t, first.Apply(run(1, 2)))
	must(t, second.Apply(run(3, 3)))
	wantTold(t, first, nil, []int{1}, run(1, 2))
	wantTold(t, second, run(3, 3), nil)
	a.Crash(0)
	want(t, "Apply", first.Apply(run(4, 4)), api.ErrPower)
	must(t, second.Apply(run(4, 4)))
}

// P14.5: many may ask at the same time, while nothing is done.
func TestAskedByMany(t *testing.T) {
	_, e := rich(t)
	told := view(e)
	must(t, e.Apply([]api.Cell{live(3, 7)}))
	answers := make(chan string)
	for range 8 {
		go func() { answers <- view(e) }()
	}
	for range 8 {
		want(t, "what is told", <-answers, told)
	}
}
