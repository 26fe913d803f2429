package engine_test

import (
	"fmt"
	"math"
	"slices"
	"testing"

	"skerry/api"
	"skerry/cell"
	"skerry/disk"
	"skerry/engine"
	"skerry/manifest"
)

// story is a call in which the power fails.
type story struct {
	name  string
	begin func(t *testing.T) *disk.Disk
	flush int
	ahead []api.Cell                     // what is applied ahead of the call
	call  func(*engine.Engine) api.Errno // nil: Open itself
	both  bool                           // an Open behind a failure tells what was, or what is then, as the failure fell
	seen  map[string]int                 // how often each of the two
	ops   int                            // of the call
	was   string                         // All ahead of it
	is    string                         // All behind it
}

func apply(l ...api.Cell) func(*engine.Engine) api.Errno {
	return func(e *engine.Engine) api.Errno { return e.Apply(l) }
}

func flush(e *engine.Engine) api.Errno { return e.Flush() }

func compact(now, grace int) func(*engine.Engine) api.Errno {
	return func(e *engine.Engine) api.Errno { _, errno := e.Compact(now, grace); return errno }
}

func with(lists ...[]api.Cell) func(t *testing.T) *disk.Disk {
	return func(t *testing.T) *disk.Disk { return laid(t, 1000, lists...) }
}

// torn: a disk with a table, and a log whose end is torn behind a record.
func torn(t *testing.T) *disk.Disk {
	d := laid(t, 1000, run(1, 3))
	record := recordOf(t, run(9, 12))
	lay(t, d, "log-1", recordOf(t, run(4, 4)))
	lay(t, d, "log-2", slices.Concat(recordOf(t, run(5, 8)), record[:len(record)-5]))
	return d
}

// elder: a disk with segments that a Flush retires, one of them below From.
func elder(t *testing.T) *disk.Disk {
	d := laid(t, 1000, run(1, 3))
	must(t, manifest.Store(d, manifestOf(2, 3, 1)))
	lay(t, d, "log-1", []byte("no log, but below From"))
	lay(t, d, "log-3", recordOf(t, run(5, 6)))
	lay(t, d, "log-4", recordOf(t, run(2, 4)))
	return d
}

func stories() []*story {
	goes := [][]api.Cell{{live(1, 1), dead(2, 2, 0)}, {dead(1, 2, 0), dead(2, 1, 0)}}
	list := []*story{
		{name: "Open of an empty disk", begin: with()},
		{name: "Open", begin: with(run(1, 3), run(4, 5))},
		{name: "Open of a torn log", begin: torn},
		{name: "Open of elder segments", begin: elder},
		{name: "Apply", begin: with(run(1, 3)), flush: 400, ahead: run(4, 4), call: apply(live(5, 1), live(1, 9), dead(2, 9, 9)), both: true},
		{name: "Apply of many", begin: with(), flush: 400, call: apply(run(1, 30)...), both: true},
		{name: "Apply that flushes", begin: elder, flush: 6, call: apply(live(7, 1), live(1, 9)), both: true},
		{name: "Apply that flushes alone", begin: with(), flush: 1, call: apply(live(7, 1)), both: true},
		{name: "Flush", begin: with(run(1, 3)), flush: 400, ahead: []api.Cell{live(2, 7), dead(3, 7, 1), live(9, 1)}, call: flush},
		{name: "Flush with elder segments", begin: elder, flush: 400, ahead: run(9, 20), call: flush},
		{name: "Compact", begin: with(run(1, 3), run(2, 5), run(6, 9)), flush: 400, ahead: run(5, 5), call: compact(0, 0)},
		{name: "Compact of some", begin: with(run(1, 3), run(2, 50), run(6, 9)), flush: 400, call: compact(0, 0)},
		{name: "Compact that purges", begin: with(run(1, 9), []api.Cell{dead(3, 3, 0), dead(14, 3, 8)}, []api.Cell{dead(5, 3, 0), dead(15, 3, 0)}), flush: 400, ahead: run(5, 5), call: compact(9, 2), both: true},
		{name: "Compact of what goes", begin: with(goes...), flush: 400, ahead: run(5, 5), call: compact(9, 2), both: true},
	}
	for _, s := range list {
		s.seen = map[string]int{}
		s.flush = max(s.flush, 1)
	}
	return list
}

// ready: the disk, and (but for an Open) the engine, ahead of the call.
func (s *story) ready(t *testing.T) (*disk.Disk, *engine.Engine) {
	t.Helper()
	d := s.begin(t)
	if s.call == nil {
		return d, nil
	}
	e := open(t, d, s.flush, 2)
	if s.ahead != nil {
		must(t, e.Apply(s.ahead))
	}
	return d, e
}

func (s *story) do(d *disk.Disk, e *engine.Engine) api.Errno {
	if s.call != nil {
		return s.call(e)
	}
	e, errno := engine.Open(d, nil, s.flush, 2)
	if errno != api.OK && e != nil {
		return -1
	}
	return errno
}

// learn: how many operations the call has without a failure, and what All is ahead of it and behind.
func (s *story) learn(t *testing.T) {
	t.Helper()
	d, e := s.ready(t)
	ops := d.Ops()
	if e == nil {
		s.was = allOf(open(t, s.begin(t), s.flush, 2))
	} else {
		s.was = allOf(e)
	}
	must(t, s.do(d, e))
	s.ops = d.Ops() - ops
	s.is = allOf(open(t, d, s.flush, 2))
	if s.both == (s.was == s.is) {
		t.Errorf("%s: it was %s, it is %s", s.name, s.was, s.is)
	}
}

func allOf(e *engine.Engine) string { return fmt.Sprint(e.All()) }

// failed: a disk behind a failure of the call at its n-th operation, with so many sectors kept; and the dead engine.
func (s *story) failed(t *testing.T, n, keep int) (*disk.Disk, *engine.Engine) {
	t.Helper()
	d, e := s.ready(t)
	must(t, d.Arm(n, keep))
	if errno := s.do(d, e); errno != api.ErrPower || d.On() {
		t.Fatalf("%s with a failure at %d: %v", s.name, n, errno)
	}
	d.Start()
	return d, e
}

// eachKeep goes through how many sectors are kept, as long as that makes a difference.
func eachKeep(failed func(keep int) *disk.Disk, do func(keep int)) {
	do(-1)
	before := ""
	for keep := 0; ; keep++ {
		now := all(failed(keep))
		if now == before {
			do(math.MaxInt)
			return
		}
		before = now
		do(keep)
	}
}

// recovered: what an Open tells behind a failure; another one tells the same, and goes on from there.
func (s *story) recovered(t *testing.T, d *disk.Disk, what string) string {
	t.Helper()
	e := open(t, d, s.flush, 2)
	told := view(e)
	cells := allOf(e)
	if cells != s.was && cells != s.is {
		t.Fatalf("%s: %s; want %s or %s", what, cells, s.was, s.is)
	}
	s.seen[cells]++
	if again := open(t, d, s.flush, 2); view(again) != told {
		t.Fatalf("%s, opened again: %s; want %s", what, view(again), told)
	}
	return cells
}

// P14.6: a failure at each operation of each call, with each number of sectors kept, and then at each operation of the Open behind it.
func TestEachFailure(t *testing.T) {
	for _, s := range stories() {
		s.learn(t)
		for n := 1; n <= s.ops; n++ {
			first := func(keep int) *disk.Disk { d, _ := s.failed(t, n, keep); return d }
			eachKeep(first, func(keep int) {
				what := fmt.Sprintf("%s with a failure at %d, %d kept", s.name, n, keep)
				d, e := s.failed(t, n, keep)
				if e != nil {
					wantDead(t, e)
				}
				cells := s.recovered(t, d, what)
				s.secondFailures(t, n, keep, cells)
				s.goesOn(t, first(keep), what)
			})
		}
		if s.both && (s.seen[s.was] == 0 || s.seen[s.is] == 0) {
			t.Errorf("%s: one of two is never seen: %v", s.name, s.seen)
		}
	}
}

// secondFailures: whichever operation of the Open behind a failure fails, the next Open tells what it would have told.
func (s *story) secondFailures(t *testing.T, n, keep int, cells string) {
	t.Helper()
	d, _ := s.failed(t, n, keep)
	ops := d.Ops()
	open(t, d, s.flush, 2)
	for m := 1; m <= d.Ops()-ops; m++ {
		second := func(more int) *disk.Disk {
			d, _ := s.failed(t, n, keep)
			must(t, d.Arm(m, more))
			wantNoEngine(t, d, s.flush, 2, api.ErrPower)
			wantNoEngine(t, d, s.flush, 2, api.ErrPower)
			d.Start()
			return d
		}
		eachKeep(second, func(more int) {
			what := fmt.Sprintf("%s with a failure at %d, %d kept, and at %d of Open, %d kept", s.name, n, keep, m, more)
			if got := s.recovered(t, second(more), what); got != cells {
				t.Fatalf("%s: %s; want %s", what, got, cells)
			}
		})
	}
}

// goesOn: behind a failure an engine takes cells, flushes and compacts as any other.
func (s *story) goesOn(t *testing.T, d *disk.Disk, what string) {
	t.Helper()
	e := open(t, d, 400, 2)
	more := []api.Cell{live(1, 70), live(200, 1)}
	cells := cell.Norm(slices.Concat(e.All(), more))
	must(t, e.Apply(more))
	wantCells(t, what+", with more", e.All(), cells)
	must(t, e.Flush())
	_, errno := e.Compact(0, 9)
	must(t, errno)
	wantCells(t, what+", with more, flushed and compacted", e.All(), cells)
	wantCells(t, what+", with more, opened", open(t, d, 400, 2).All(), cells)
	want(t, "manifest.new is left", slices.Contains(d.List(), "manifest.new"), false)
}

// P14.3: of a Flush the manifest's rename is the ninth operation: up to there nothing has changed, behind it memory is empty.
func TestFlushFails(t *testing.T) {
	for n := 1; n <= 12; n++ {
		d := elder(t)
		e := open(t, d, 400, 2)
		memory := run(2, 6)
		wantTold(t, e, memory, []int{1}, run(1, 3))
		must(t, d.Arm(n, 0))
		ops := d.Ops()
		want(t, "Flush", e.Flush(), api.ErrPower)
		want(t, "Ops", d.Ops()-ops, n)
		d.Start()
		if n <= 9 {
			wantTold(t, e, memory, []int{1}, run(1, 3))
		} else {
			wantTold(t, e, nil, []int{1, 2}, run(1, 3), memory)
		}
		wantDead(t, e)
		if n <= 9 {
			wantTold(t, open(t, d, 400, 2), memory, []int{1}, run(1, 3))
		} else {
			wantTold(t, open(t, d, 400, 2), nil, []int{1, 2}, run(1, 3), memory)
		}
	}
}

// P14.3: what a failure at each operation of a Flush leaves of files.
func TestFilesBehindAFailureOfFlush(t *testing.T) {
	logs := []string{"log-1", "log-3", "log-4", "log-5"}
	lists := [][]string{
		nil, {"tab-2"}, {"tab-2"}, {"tab-2"}, {"log-6", "tab-2"}, {"log-6", "tab-2"},
		{"log-6", "manifest.new", "tab-2"}, {"log-6", "manifest.new", "tab-2"}, {"log-6", "manifest.new", "tab-2"},
	}
	for i, more := range lists {
		wantFilesBehind(t, flush, i+1, slices.Concat(logs, []string{"manifest", "tab-1"}, more))
	}
	for i := range 4 {
		wantFilesBehind(t, flush, 10+i, slices.Concat(logs[i:], []string{"log-6", "manifest", "tab-1", "tab-2"}))
	}
}

func wantFilesBehind(t *testing.T, call func(*engine.Engine) api.Errno, n int, names []string) {
	t.Helper()
	d := elder(t)
	e := open(t, d, 400, 2)
	must(t, d.Arm(n, 0))
	want(t, fmt.Sprintf("a failure at %d", n), call(e), api.ErrPower)
	d.Start()
	wantList(t, d, slices.Sorted(slices.Values(names))...)
}

// P14.4: of a Compact the manifest's rename is the seventh operation: up to there nothing has changed, behind it the tables have.
func TestCompactFails(t *testing.T) {
	files := [][]string{
		nil, {"tab-4"}, {"tab-4"}, {"tab-4"}, {"manifest.new", "tab-4"}, {"manifest.new", "tab-4"}, {"manifest.new", "tab-4"},
	}
	lists := [][]api.Cell{run(1, 2), run(10, 40), run(3, 4)}
	for n := 1; n <= 9; n++ {
		d := laid(t, 1000, lists...)
		e := open(t, d, 400, 2)
		must(t, e.Apply(run(50, 50)))
		must(t, d.Arm(n, 0))
		wantCompact(t, e, 0, 0, false, api.ErrPower)
		d.Start()
		check := func(e *engine.Engine) {
			t.Helper()
			if n <= 7 {
				wantTold(t, e, run(50, 50), []int{1, 2, 3}, lists...)
			} else {
				wantTold(t, e, run(50, 50), []int{2, 4}, run(10, 40), run(1, 4))
			}
		}
		check(e)
		wantDead(t, e)
		check(e)
		switch {
		case n <= 7:
			wantList(t, d, slices.Sorted(slices.Values(append(files[n-1], "log-1", "manifest", "tab-1", "tab-2", "tab-3")))...)
		case n == 8:
			wantList(t, d, "log-1", "manifest", "tab-1", "tab-2", "tab-3", "tab-4")
		default:
			wantList(t, d, "log-1", "manifest", "tab-2", "tab-3", "tab-4")
		}
		check(open(t, d, 400, 2))
	}
}

// P14.4: the same where all that is chosen goes: there the rename is the fourth.
func TestCompactOfWhatGoesFails(t *testing.T) {
	for n := 1; n <= 6; n++ {
		d := laid(t, 1000, run(1, 1), []api.Cell{dead(1, 2, 0)})
		e := open(t, d, 400, 2)
		must(t, d.Arm(n, 0))
		wantCompact(t, e, 5, 5, false, api.ErrPower)
		d.Start()
		for _, e := range []*engine.Engine{e, open(t, d, 400, 2)} {
			if n <= 4 {
				wantTold(t, e, nil, []int{1, 2}, run(1, 1), []api.Cell{dead(1, 2, 0)})
			} else {
				wantTold(t, e, nil, nil)
			}
		}
		wantDead(t, e)
	}
}

// P14.2: of an Apply whose record was cut nothing is in memory; one whose flush was cut has its cells, as the log has.
func TestApplyFails(t *testing.T) {
	for n := 1; n <= 12; n++ {
		d := disk.New(1000)
		e := open(t, d, 3, 2)
		must(t, e.Apply(run(1, 2)))
		must(t, d.Arm(n, 0))
		want(t, "Apply", e.Apply(run(3, 4)), api.ErrPower)
		d.Start()
		for _, e := range []*engine.Engine{e, open(t, d, 3, 2)} {
			switch {
			case n <= 2:
				wantTold(t, e, run(1, 2), nil)
			case n <= 11:
				wantTold(t, e, run(1, 4), nil)
			default:
				wantTold(t, e, nil, []int{1}, run(1, 4))
			}
		}
		wantDead(t, e)
	}
}

// P14.1: a failure at each operation of an Open of a torn log: none of it is lost, and the tables are as they were.
func TestOpenFails(t *testing.T) {
	for n := 1; n <= 6; n++ {
		d := torn(t)
		must(t, d.Arm(n, 0))
		wantNoEngine(t, d, 400, 2, api.ErrPower)
		want(t, "On", d.On(), false)
		d.Start()
		wantTold(t, open(t, d, 400, 2), run(4, 8), []int{1}, run(1, 3))
		want(t, "log.new is left", slices.Contains(d.List(), "log.new"), false)
	}
	d := torn(t)
	must(t, d.Arm(7, 0))
	wantTold(t, open(t, d, 400, 2), run(4, 8), []int{1}, run(1, 3))
}

// P14.6: an Open that finds no room for the log changes nothing of what the next one tells.
func TestOpenWithLittleRoom(t *testing.T) {
	seen := map[api.Errno]int{}
	for free := range 30 {
		d := torn(t)
		fill(t, d, 1000, free)
		_, errno := engine.Open(d, nil, 400, 2)
		seen[errno]++
		if errno != api.OK && errno != api.ErrFull {
			t.Errorf("Open: %v", errno)
		}
		must(t, d.Remove("rest"))
		wantTold(t, open(t, d, 400, 2), run(4, 8), []int{1}, run(1, 3))
	}
	if seen[api.OK] == 0 || seen[api.ErrFull] == 0 {
		t.Errorf("answers: %v", seen)
	}
}
