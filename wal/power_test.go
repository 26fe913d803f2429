package wal_test

import (
	"bytes"
	"maps"
	"math"
	"slices"
	"testing"

	"skerry/api"
	"skerry/disk"
	"skerry/wal"
)

func wantDead(t *testing.T, l *wal.Log) {
	t.Helper()
	want(t, "Append of a dead log", l.Append(cellsOf(1, 1)), api.ErrPower)
	wantRoll(t, l, 0, api.ErrPower)
	want(t, "Retire of a dead log", l.Retire(math.MaxInt), api.ErrPower)
}

// P7.2: a failure at each operation of an Open without a torn segment.
func TestOpenFails(t *testing.T) {
	for failing := 1; failing <= 2; failing++ {
		d := disk.New(1000)
		lay(t, d, "log-4", segment(t, nil, cellsOf(1, 2)))
		before := all(d)
		must(t, d.Arm(failing, 9))
		wantNoLog(t, d, 1, api.ErrPower)
		wantNoLog(t, d, 1, api.ErrPower)
		d.Start()
		if failing == 1 {
			want(t, "the disk", all(d), before)
		} else {
			want(t, "the disk", all(d), before+"log-5 \n")
		}
		wantLog(t, open(t, d, 1, cellsOf(1, 2)), 4+failing, []int{4, 5, 6}[:failing+1]...)
	}
}

// P7.2, P7.4: a failure at each operation of a mending, and of the new segment behind it.
func TestMendingFails(t *testing.T) {
	records := [][]api.Cell{cellsOf(1, 1), cellsOf(2, 3)}
	torn := segment(t, []byte{1, 2, 3}, records...)
	sound := torn[:len(torn)-3]
	for failing := 1; failing <= 6; failing++ {
		for _, keep := range []int{0, 1, 2, 99} {
			d := disk.New(1000)
			lay(t, d, "log-1", segment(t, nil, cellsOf(9, 1)))
			lay(t, d, "log-7", torn)
			must(t, d.Arm(failing, keep))
			wantNoLog(t, d, 1, api.ErrPower)
			d.Start()
			wantFile(t, d, "log-1", segment(t, nil, cellsOf(9, 1)))
			switch {
			case failing == 1:
				wantList(t, d, "log-1", "log-7")
			case failing <= 4:
				wantList(t, d, "log-1", "log-7", "log.new")
			case failing == 5:
				wantList(t, d, "log-1", "log-7")
			default:
				wantList(t, d, "log-1", "log-7", "log-8")
				wantFile(t, d, "log-8", nil)
			}
			if failing == 4 {
				wantFile(t, d, "log.new", sound)
			}
			if failing <= 4 {
				wantFile(t, d, "log-7", torn)
			} else {
				wantFile(t, d, "log-7", sound)
			}
			open(t, d, 1, cellsOf(9, 1), records[0], records[1])
			wantFile(t, d, "log-7", sound)
			if slices.Contains(d.List(), "log.new") {
				t.Error("log.new is left")
			}
		}
	}
}

// P7.2: the same where no record stands ahead of the tear: then nothing is appended.
func TestMendingWithoutRecordsFails(t *testing.T) {
	lists := [][]string{{"log-7"}, {"log-7", "log.new"}, {"log-7", "log.new"}, {"log-7"}, {"log-7", "log-8"}}
	for i, names := range lists {
		d := disk.New(1000)
		lay(t, d, "log-7", []byte{1, 2, 3})
		must(t, d.Arm(i+1, 0))
		wantNoLog(t, d, 1, api.ErrPower)
		d.Start()
		wantList(t, d, names...)
		if i < 3 {
			wantFile(t, d, "log-7", []byte{1, 2, 3})
		} else {
			wantFile(t, d, "log-7", nil)
		}
		open(t, d, 1)
		wantFile(t, d, "log-7", nil)
	}
}

// P7.3, P7.4: a failure at each operation of an Append, whatever is kept of its sectors.
func TestAppendFails(t *testing.T) {
	sure, cut := cellsOf(1, 2), cellsOf(3, 9)
	bytesOf := segment(t, nil, sure, cut)
	whole, lost := 0, 0
	for failing := 1; failing <= 2; failing++ {
		for keep := range disk.Sectors(len(bytesOf)) + 2 {
			d := disk.New(1000)
			l := open(t, d, 1)
			must(t, l.Append(sure))
			must(t, d.Arm(failing, keep))
			want(t, "Append", l.Append(cut), api.ErrPower)
			d.Start()
			wantDead(t, l)
			wantLog(t, l, 1, 1)
			b, e := d.Read("log-1")
			must(t, e)
			if !bytes.HasPrefix(bytesOf, b) || len(b) < len(recordOf(t, sure)) {
				t.Fatalf("log-1 has %x", b)
			}
			if len(b) == len(bytesOf) {
				whole++
				wantLog(t, open(t, d, 1, sure, cut), 2, 1, 2)
			} else {
				lost++
				wantLog(t, open(t, d, 1, sure), 2, 1, 2)
				wantFile(t, d, "log-1", segment(t, nil, sure))
			}
		}
	}
	if whole < 2 || lost < 8 {
		t.Errorf("%d whole, %d lost", whole, lost)
	}
}

// P7.3: a failure at each operation of a Roll; the number that it did not tell is not told by Last either.
func TestRollFails(t *testing.T) {
	for failing := 1; failing <= 2; failing++ {
		d := disk.New(1000)
		l := open(t, d, 1)
		must(t, l.Append(cellsOf(1, 1)))
		must(t, d.Arm(failing, 0))
		wantRoll(t, l, 0, api.ErrPower)
		want(t, "Last", l.Last(), 1)
		d.Start()
		wantDead(t, l)
		wantLog(t, l, 1, []int{1, 2}[:failing]...)
		wantLog(t, open(t, d, 1, cellsOf(1, 1)), failing+1, []int{1, 2, 3}[:failing+1]...)
	}
}

// P7.3: a failure at each operation of a Retire: those with lesser numbers are gone, by numbers.
func TestRetireFails(t *testing.T) {
	elder := []int{2, 9, 10, 11, 100}
	for failing := 1; failing <= 4; failing++ {
		d := disk.New(1000)
		for _, n := range elder {
			lay(t, d, wal.Name(n), segment(t, nil, cellsOf(n, 1)))
		}
		l, _, _ := wal.Open(d, 1)
		must(t, l.Append(cellsOf(101, 1)))
		must(t, d.Arm(failing, 0))
		want(t, "Retire", l.Retire(100), api.ErrPower)
		d.Start()
		wantDead(t, l)
		wantLog(t, l, 101, append(slices.Clone(elder[failing-1:]), 101)...)
		var records [][]api.Cell
		for _, n := range append(slices.Clone(elder[failing-1:]), 101) {
			records = append(records, cellsOf(n, 1))
		}
		open(t, d, 1, records...)
	}
}

// story is what a log was told: records that are sure, by segments; those that may go; and one that may come.
type story struct {
	sure    map[int][][]api.Cell
	retired []int
	cut     []api.Cell
}

// tell does the calls of a long story, till the power fails; they have some 40 operations.
func tell(d *disk.Disk) (story, *wal.Log, api.Errno) {
	s := story{sure: map[int][][]api.Cell{}}
	l, _, e := wal.Open(d, 1)
	for step, cells := range []int{1, 20, 0, 3, 10, 0, 2, -2, 5, 0, 1, 0, 1, -4, 30, 2, -5, 1} {
		switch {
		case e != api.OK:
			return s, l, e
		case cells == 0:
			_, e = l.Roll()
		case cells < 0:
			e = s.retire(l, -cells)
		default:
			e = s.append(l, cellsOf(100*step, cells))
		}
	}
	return s, l, e
}

func (s *story) append(l *wal.Log, cells []api.Cell) api.Errno {
	e := l.Append(cells)
	if e == api.OK {
		s.sure[l.Last()] = append(s.sure[l.Last()], cells)
	} else {
		s.cut = cells
	}
	return e
}

func (s *story) retire(l *wal.Log, until int) api.Errno {
	var below []int
	for n := range s.sure {
		if n < until {
			below = append(below, n)
		}
	}
	slices.Sort(below)
	e := l.Retire(until)
	if e != api.OK {
		s.retired = below
		return e
	}
	for _, n := range below {
		delete(s.sure, n)
	}
	return api.OK
}

// may: all that an Open behind the failure may tell.
func (s *story) may() [][][]api.Cell {
	var out [][][]api.Cell
	for gone := range len(s.retired) + 1 {
		var records [][]api.Cell
		for _, n := range slices.Sorted(maps.Keys(s.sure)) {
			if !slices.Contains(s.retired[:gone], n) {
				records = append(records, s.sure[n]...)
			}
		}
		out = append(out, records)
		if s.cut != nil {
			out = append(out, append(slices.Clone(records), s.cut))
		}
	}
	return out
}

// fail: the story, cut off at an operation; and the Open behind it, cut off at another one. 0: none is.
func fail(t *testing.T, first, keep, second, keepThen int) (story, *disk.Disk, bool) {
	t.Helper()
	d := disk.New(1000)
	must(t, d.Arm(first, keep))
	s, l, e := tell(d)
	if e != api.ErrPower {
		t.Fatalf("operation %d did not fail: %v", first, e)
	}
	d.Start()
	if l != nil {
		wantDead(t, l)
	}
	must(t, d.Arm(second, keepThen))
	if _, told, e := wal.Open(d, 1); e != api.ErrPower {
		must(t, e)
		must(t, d.Arm(0, 0))
		wantOneOf(t, told, s.may())
		return s, d, false
	}
	d.Start()
	return s, d, true
}

func wantOneOf(t *testing.T, told [][]api.Cell, may [][][]api.Cell) {
	t.Helper()
	if !slices.ContainsFunc(may, func(records [][]api.Cell) bool { return sameRecords(told, records) }) {
		t.Fatalf("told %v\nwant one of %v", told, may)
	}
}

// P7.4: a failure at each operation of a long story, and again at each operation of the Open behind it; then the log goes on.
func TestEachFailure(t *testing.T) {
	whole := disk.New(1000)
	_, _, e := tell(whole)
	must(t, e)
	var opens [8]int // how many had so many operations
	for first := 1; first <= whole.Ops(); first++ {
		for _, keep := range []int{-1, 0, 1, 2, 3, 5, 8, 13, math.MaxInt} {
			second := 0
			for again := true; again; {
				second++
				for _, keepThen := range []int{0, 1, 4, math.MaxInt} {
					var s story
					var d *disk.Disk
					s, d, again = fail(t, first, keep, second, keepThen)
					goOn(t, s, d)
				}
			}
			opens[second-1]++
		}
	}
	if opens[2] == 0 || opens[5] == 0 || opens[6] == 0 {
		t.Errorf("Opens by their operations: %v", opens)
	}
}

// goOn: an Open tells what may be told, and the next one the same and what came behind it.
func goOn(t *testing.T, s story, d *disk.Disk) {
	t.Helper()
	l, told, e := wal.Open(d, 1)
	must(t, e)
	wantOneOf(t, told, s.may())
	must(t, l.Append(cellsOf(-5, 2)))
	d.Crash(0)
	d.Start()
	open(t, d, 1, append(told, cellsOf(-5, 2))...)
}
