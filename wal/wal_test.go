package wal_test

import (
	"bytes"
	"fmt"
	"math"
	"slices"
	"testing"

	"skerry/api"
	"skerry/disk"
	"skerry/wal"
)

func must(t *testing.T, e api.Errno) {
	t.Helper()
	if e != api.OK {
		t.Fatal(e)
	}
}

func want[T comparable](t *testing.T, what string, got, want T) {
	t.Helper()
	if got != want {
		t.Errorf("%s: %v, want %v", what, got, want)
	}
}

// all tells the whole of a disk with power.
func all(d *disk.Disk) string {
	s := ""
	for _, name := range d.List() {
		b, _ := d.Read(name)
		s += fmt.Sprintf("%s %x\n", name, b)
	}
	return s
}

// lay: a file of bytes that are sure.
func lay(t *testing.T, d *disk.Disk, name string, b []byte) {
	t.Helper()
	must(t, d.Create(name))
	must(t, d.Append(name, b))
	must(t, d.Sync(name))
}

// segment: the bytes of records, one behind the other, and any bytes behind them.
func segment(t *testing.T, torn []byte, records ...[]api.Cell) []byte {
	t.Helper()
	var b []byte
	for _, l := range records {
		b = append(b, recordOf(t, l)...)
	}
	return append(b, torn...)
}

func open(t *testing.T, d *disk.Disk, from int, records ...[]api.Cell) *wal.Log {
	t.Helper()
	l, told, e := wal.Open(d, from)
	if e != api.OK || l == nil {
		t.Fatalf("Open from %d: %v", from, e)
	}
	if !sameRecords(told, records) {
		t.Fatalf("Open from %d told %v, want %v", from, told, records)
	}
	return l
}

func wantNoLog(t *testing.T, d *disk.Disk, from int, errno api.Errno) {
	t.Helper()
	if l, told, e := wal.Open(d, from); l != nil || len(told) != 0 || e != errno {
		t.Errorf("Open from %d: %v, %v, %v, want nothing, %v", from, l, told, e, errno)
	}
}

func wantLog(t *testing.T, l *wal.Log, last int, segments ...int) {
	t.Helper()
	want(t, "Last", l.Last(), last)
	if got := l.Segments(); !slices.Equal(got, segments) {
		t.Errorf("Segments: %v, want %v", got, segments)
	}
}

func wantRoll(t *testing.T, l *wal.Log, number int, errno api.Errno) {
	t.Helper()
	if n, e := l.Roll(); n != number || e != errno {
		t.Errorf("Roll: %d, %v, want %d, %v", n, e, number, errno)
	}
}

func wantFile(t *testing.T, d *disk.Disk, name string, want []byte) {
	t.Helper()
	if b, e := d.Read(name); e != api.OK || !bytes.Equal(b, want) {
		t.Errorf("%s: %x, %v, want %x", name, b, e, want)
	}
}

func wantList(t *testing.T, d *disk.Disk, names ...string) {
	t.Helper()
	if got := d.List(); !slices.Equal(got, names) {
		t.Errorf("List: %v, want %v", got, names)
	}
}

// The example of the chapter.
func TestExample(t *testing.T) {
	d := disk.New(1000)
	l := open(t, d, 1)
	wantList(t, d, "log-1")
	must(t, l.Append(cellsOf(1, 1)))
	must(t, l.Append(cellsOf(2, 1)))
	wantRoll(t, l, 2, api.OK)
	wantList(t, d, "log-1", "log-2")
	must(t, l.Retire(2))
	wantList(t, d, "log-2")
	wantLog(t, l, 2, 2)
}

// P7.2: a disk that may not be, or has no power, counts ahead of a from that may not be.
func TestOpenErrors(t *testing.T) {
	for _, from := range []int{math.MinInt, -1, 0, 1, 7, 999999999, 1000000000, math.MaxInt} {
		wantNoLog(t, nil, from, api.ErrMade)
		wantNoLog(t, &disk.Disk{}, from, api.ErrMade)
		d := disk.New(1000)
		lay(t, d, "log-1", segment(t, []byte{1}, cellsOf(1, 1)))
		lay(t, d, "log-2", nil)
		before := all(d)
		d.Crash(0)
		wantNoLog(t, d, from, api.ErrPower)
		d.Start()
		want(t, "the disk behind ErrPower", all(d), before)
	}
	for _, from := range []int{math.MinInt, -999999999, -1, 0, 1000000000, 1000000001, math.MaxInt} {
		d := disk.New(1000)
		lay(t, d, "log-1", segment(t, []byte{1}, cellsOf(1, 1)))
		lay(t, d, "log-2", nil)
		before, ops := all(d), d.Ops()
		wantNoLog(t, d, from, api.ErrArg)
		want(t, "the disk behind ErrArg", all(d), before)
		want(t, "Ops", d.Ops(), ops)
	}
}

// P7.2: the first segment of an empty disk is from.
func TestOpenOfEmptyDisk(t *testing.T) {
	for _, from := range []int{1, 2, 10, 999999998, 999999999} {
		d := disk.New(10)
		l := open(t, d, from)
		wantLog(t, l, from, from)
		wantFile(t, d, wal.Name(from), nil)
		want(t, "Ops", d.Ops(), 2)
		want(t, "On", d.On(), true)
	}
}

// P7.2: which number comes next, whatever from is, and whatever stands below it.
func TestOpenNumbers(t *testing.T) {
	for _, c := range []struct {
		segments []int
		from     int
		want     int
	}{
		{[]int{1}, 1, 2},
		{[]int{1}, 2, 2},
		{[]int{1}, 3, 3},
		{[]int{1}, 999999999, 999999999},
		{[]int{5}, 1, 6},
		{[]int{5}, 4, 6},
		{[]int{5}, 5, 6},
		{[]int{5}, 6, 6},
		{[]int{5}, 7, 7},
		{[]int{2, 9, 10, 11, 100}, 1, 101},
		{[]int{2, 9}, 3, 10},
		{[]int{9, 10}, 10, 11},
		{[]int{999999998}, 1, 999999999},
		{[]int{999999998}, 999999999, 999999999},
		{[]int{3, 5}, 4, 6},
	} {
		d := disk.New(1000)
		for _, n := range c.segments {
			lay(t, d, wal.Name(n), nil)
		}
		ops := d.Ops()
		l := open(t, d, c.from)
		wantLog(t, l, c.want, append(slices.Clone(c.segments), c.want)...)
		want(t, "Ops", d.Ops()-ops, 2)
	}
}

// P7.2: above the greatest number there is no room, and then nothing has changed, not even a torn end.
func TestOpenAboveGreatest(t *testing.T) {
	for _, torn := range [][]byte{nil, {1, 2, 3}} {
		for _, from := range []int{1, 5, 999999999} {
			d := disk.New(1000)
			lay(t, d, "log-999999999", segment(t, torn, cellsOf(1, 2)))
			before, ops := all(d), d.Ops()
			wantNoLog(t, d, from, api.ErrFull)
			want(t, "the disk", all(d), before)
			want(t, "Ops", d.Ops(), ops)
		}
	}
	d := disk.New(1000)
	lay(t, d, "log-7", []byte{1})
	lay(t, d, "log-999999999", nil)
	wantNoLog(t, d, 1, api.ErrCorrupt)
	wantNoLog(t, d, 8, api.ErrFull)
}

// P7.2: records are told by the segments' numbers, not by their names; those below from are not, and other files are none.
func TestOpenTells(t *testing.T) {
	set := func() *disk.Disk {
		d := disk.New(1000)
		lay(t, d, "log-10", segment(t, nil, cellsOf(100, 1), cellsOf(101, 2)))
		lay(t, d, "log-9", segment(t, nil, cellsOf(90, 3)))
		lay(t, d, "log-2", segment(t, nil, cellsOf(20, 1)))
		lay(t, d, "log-3", nil)
		lay(t, d, "log-100", segment(t, nil, cellsOf(1000, api.MaxCells)))
		for _, name := range []string{"log", "log-", "log-0", "log-04", "log-1000000000", "log.5", "log.new", "tab-5", "log-x"} {
			lay(t, d, name, segment(t, []byte("none"), cellsOf(5, 1)))
		}
		return d
	}
	told := [][]api.Cell{cellsOf(20, 1), cellsOf(90, 3), cellsOf(100, 1), cellsOf(101, 2), cellsOf(1000, api.MaxCells)}
	for from, skipped := range map[int]int{1: 0, 2: 0, 3: 1, 9: 1, 10: 2, 11: 4, 100: 4, 101: 5} {
		d := set()
		files, ops := len(d.List()), d.Ops()
		l := open(t, d, from, told[skipped:]...)
		wantLog(t, l, 101, 2, 3, 9, 10, 100, 101)
		want(t, "files", len(d.List()), files+1)
		want(t, "Ops", d.Ops()-ops, 2)
		wantFile(t, d, "log.new", segment(t, []byte("none"), cellsOf(5, 1)))
	}
	d := set()
	l := open(t, d, 5000)
	wantLog(t, l, 5000, 2, 3, 9, 10, 100, 5000)
}

// tears: bytes that no record begins.
func tears(t *testing.T) [][]byte {
	record := recordOf(t, cellsOf(7, 2))
	out := [][]byte{{0}, {1, 2, 3}, make([]byte, 16), record[:1], record[:8], record[:len(record)-1], append([]byte{9}, record...)}
	for _, frame := range strange() {
		out = append(out, frame, append(bytes.Clone(frame), record...))
	}
	return out
}

// P7.2: a torn end of the last segment is cut off, with and without records ahead of it.
func TestOpenMends(t *testing.T) {
	for _, torn := range tears(t) {
		for _, records := range [][][]api.Cell{nil, {cellsOf(1, 1)}, {cellsOf(1, 1), cellsOf(2, 40), cellsOf(3, 2)}} {
			d := disk.New(1 << 17)
			lay(t, d, "log-3", segment(t, nil, cellsOf(30, 1)))
			lay(t, d, "log-10", segment(t, torn, records...))
			ops := d.Ops()
			l := open(t, d, 1, append([][]api.Cell{cellsOf(30, 1)}, records...)...)
			wantLog(t, l, 11, 3, 10, 11)
			wantList(t, d, "log-10", "log-11", "log-3")
			wantFile(t, d, "log-10", segment(t, nil, records...))
			wantFile(t, d, "log-11", nil)
			want(t, "Dirty", d.Dirty(), 0)
			if len(records) > 0 {
				want(t, "Ops with records", d.Ops()-ops, 6)
			} else {
				want(t, "Ops without records", d.Ops()-ops, 5)
			}
			must(t, l.Append(cellsOf(110, 1)))
			open(t, d, 1, slices.Concat([][]api.Cell{cellsOf(30, 1)}, records, [][]api.Cell{cellsOf(110, 1)})...)
		}
	}
}

// P7.2: what an earlier mending left is not in the way of the next one.
func TestOpenMendsAnew(t *testing.T) {
	for _, records := range [][][]api.Cell{nil, {cellsOf(1, 1)}} {
		d := disk.New(1000)
		lay(t, d, "log-1", segment(t, []byte{5}, records...))
		lay(t, d, "log.new", segment(t, []byte{6}, cellsOf(60, 3)))
		open(t, d, 1, records...)
		wantList(t, d, "log-1", "log-2")
		wantFile(t, d, "log-1", segment(t, nil, records...))
	}
}

// P7.2: a torn segment that is not the last one is refused, and nothing has changed.
func TestOpenCorrupt(t *testing.T) {
	for _, torn := range tears(t) {
		for _, names := range [][]string{{"log-9", "log-10"}, {"log-1", "log-2"}, {"log-1", "log-999999998"}} {
			d := disk.New(1 << 17)
			lay(t, d, names[0], segment(t, torn, cellsOf(1, 1)))
			lay(t, d, names[1], segment(t, nil, cellsOf(2, 1)))
			before, ops := all(d), d.Ops()
			wantNoLog(t, d, 1, api.ErrCorrupt)
			want(t, "the disk", all(d), before)
			want(t, "Ops", d.Ops(), ops)
			must(t, d.Append(names[1], torn))
			wantNoLog(t, d, 1, api.ErrCorrupt)
			want(t, "Ops with two torn ones", d.Ops(), ops+1)
			must(t, d.Create(names[1]))
			wantNoLog(t, d, 1, api.ErrCorrupt)
		}
	}
}

// P7.2: a torn segment below from is neither read nor mended.
func TestOpenLeavesElderOnes(t *testing.T) {
	d := disk.New(1000)
	lay(t, d, "log-1", segment(t, []byte{1}, cellsOf(1, 1)))
	lay(t, d, "log-2", segment(t, []byte{2}, cellsOf(2, 1)))
	lay(t, d, "log-3", segment(t, []byte{3}, cellsOf(3, 1)))
	open(t, d, 3, cellsOf(3, 1))
	wantFile(t, d, "log-1", segment(t, []byte{1}, cellsOf(1, 1)))
	wantFile(t, d, "log-2", segment(t, []byte{2}, cellsOf(2, 1)))
	wantFile(t, d, "log-3", segment(t, nil, cellsOf(3, 1)))
	l := open(t, d, 9)
	wantLog(t, l, 9, 1, 2, 3, 4, 9)
	wantNoLog(t, d, 2, api.ErrCorrupt)
}

// P7.2: a bit that is turned in the last segment costs the records from there on, in another one all.
func TestOpenOfSpoiledBits(t *testing.T) {
	for at := range len(recordOf(t, cellsOf(2, 1))) {
		d := disk.New(1000)
		lay(t, d, "log-1", segment(t, nil, cellsOf(1, 1), cellsOf(2, 1), cellsOf(3, 1)))
		must(t, d.Spoil("log-1", len(recordOf(t, cellsOf(1, 1)))+at, at%8))
		open(t, d, 1, cellsOf(1, 1))
		must(t, d.Spoil("log-1", 0, 0))
		wantNoLog(t, d, 1, api.ErrCorrupt)
		open(t, d, 2)
	}
}

// P7.3: records stand one behind the other in the segment that is written, each by two operations.
func TestAppend(t *testing.T) {
	d := disk.New(100000)
	l := open(t, d, 4)
	var records [][]api.Cell
	for i, n := range []int{1, 2, api.MaxCells, 1, 30} {
		records = append(records, cellsOf(1000*i, n))
		must(t, l.Append(records[i]))
		wantFile(t, d, "log-4", segment(t, nil, records...))
		want(t, "Ops", d.Ops(), 2*(i+2))
		want(t, "Dirty", d.Dirty(), 0)
	}
	wantRoll(t, l, 5, api.OK)
	want(t, "Ops", d.Ops(), 14)
	must(t, l.Append(cellsOf(7, 1)))
	wantFile(t, d, "log-4", segment(t, nil, records...))
	wantFile(t, d, "log-5", segment(t, nil, cellsOf(7, 1)))
	wantList(t, d, "log-4", "log-5")
	wantLog(t, open(t, d, 1, append(records, cellsOf(7, 1))...), 6, 4, 5, 6)
}

// P7.3: Record's errors; nothing has changed.
func TestAppendRefuses(t *testing.T) {
	d := disk.New(100000)
	l := open(t, d, 1)
	must(t, l.Append(cellsOf(1, 1)))
	before, ops := all(d), d.Ops()
	want(t, "Append(nil)", l.Append(nil), api.ErrArg)
	want(t, "Append of nothing", l.Append([]api.Cell{}), api.ErrArg)
	want(t, "Append of too many", l.Append(cellsOf(1, api.MaxCells+1)), api.ErrArg)
	for _, bad := range badCells() {
		want(t, "Append of a bad cell", l.Append([]api.Cell{cellOf(1), bad}), api.ErrArg)
	}
	want(t, "the disk", all(d), before)
	want(t, "Ops", d.Ops(), ops)
	must(t, l.Append(cellsOf(2, 1)))
	open(t, d, 1, cellsOf(1, 1), cellsOf(2, 1))
}

// P7.3: what is wrong with the log counts ahead of what is wrong with the cells, and of a disk that is full.
func TestPowerAheadOfArguments(t *testing.T) {
	d := disk.New(1)
	l := open(t, d, 999999999)
	d.Crash(0)
	want(t, "Append of nothing", l.Append(nil), api.ErrPower)
	want(t, "Append", l.Append(cellsOf(1, 1)), api.ErrPower)
	wantRoll(t, l, 0, api.ErrPower)
	want(t, "Retire", l.Retire(1), api.ErrPower)
}

// P7.3: the numbers of Roll, by which nothing of the elder segments is changed.
func TestRoll(t *testing.T) {
	d := disk.New(1000)
	l := open(t, d, 8)
	for n := 9; n < 13; n++ {
		must(t, l.Append(cellsOf(n, 1)))
		ops := d.Ops()
		wantRoll(t, l, n, api.OK)
		want(t, "Ops", d.Ops()-ops, 2)
		want(t, "Last", l.Last(), n)
		wantFile(t, d, wal.Name(n), nil)
		wantFile(t, d, wal.Name(n-1), segment(t, nil, cellsOf(n, 1)))
	}
	wantLog(t, l, 12, 8, 9, 10, 11, 12)
	open(t, d, 1, cellsOf(9, 1), cellsOf(10, 1), cellsOf(11, 1), cellsOf(12, 1))
}

// P7.3: above the greatest number there is no room; the log goes on in its segment.
func TestRollAboveGreatest(t *testing.T) {
	d := disk.New(1000)
	l := open(t, d, 999999998)
	wantRoll(t, l, 999999999, api.OK)
	ops := d.Ops()
	wantRoll(t, l, 0, api.ErrFull)
	wantRoll(t, l, 0, api.ErrFull)
	want(t, "Ops", d.Ops(), ops)
	wantLog(t, l, 999999999, 999999998, 999999999)
	must(t, l.Append(cellsOf(1, 1)))
	must(t, l.Retire(999999999))
	wantLog(t, l, 999999999, 999999999)
	wantFile(t, d, "log-999999999", segment(t, nil, cellsOf(1, 1)))
}

// P7.3: which segments go: never the one that is written, nor any other file.
func TestRetire(t *testing.T) {
	for _, c := range []struct {
		until int
		want  []int
	}{
		{math.MinInt, []int{2, 5, 9, 10, 11, 12}},
		{-1, []int{2, 5, 9, 10, 11, 12}},
		{0, []int{2, 5, 9, 10, 11, 12}},
		{1, []int{2, 5, 9, 10, 11, 12}},
		{2, []int{2, 5, 9, 10, 11, 12}},
		{3, []int{5, 9, 10, 11, 12}},
		{5, []int{5, 9, 10, 11, 12}},
		{6, []int{9, 10, 11, 12}},
		{10, []int{10, 11, 12}},
		{11, []int{11, 12}},
		{12, []int{12}},
		{13, []int{12}},
		{1000000000, []int{12}},
		{math.MaxInt, []int{12}},
	} {
		d := disk.New(1000)
		for _, name := range []string{"log-2", "log-5", "log-9", "log-10", "log.new", "log-0", "log-03", "tab-1"} {
			lay(t, d, name, segment(t, nil, cellsOf(1, 1)))
		}
		l, _, _ := wal.Open(d, 1)
		wantRoll(t, l, 12, api.OK)
		must(t, l.Append(cellsOf(12, 1)))
		ops := d.Ops()
		must(t, l.Retire(c.until))
		wantLog(t, l, 12, c.want...)
		want(t, "Ops", d.Ops()-ops, 6-len(c.want))
		want(t, "files", len(d.List()), len(c.want)+4)
		wantFile(t, d, "log-12", segment(t, nil, cellsOf(12, 1)))
		must(t, l.Retire(c.until))
		wantLog(t, l, 12, c.want...)
	}
}

// P7.3: a segment above the one that is written goes by its number, too.
func TestRetireAboveWritten(t *testing.T) {
	d := disk.New(1000)
	l := open(t, d, 3)
	lay(t, d, "log-7", nil)
	lay(t, d, "log-20", nil)
	must(t, l.Retire(7))
	wantLog(t, l, 3, 3, 7, 20)
	must(t, l.Retire(8))
	wantLog(t, l, 3, 3, 20)
	must(t, l.Retire(math.MaxInt))
	wantLog(t, l, 3, 3)
}

// P7.3: behind Retire the log is written as before, and an Open tells what is left.
func TestRetireAndGoOn(t *testing.T) {
	d := disk.New(1000)
	l := open(t, d, 1)
	for n := 1; n < 5; n++ {
		must(t, l.Append(cellsOf(n, 1)))
		wantRoll(t, l, n+1, api.OK)
	}
	must(t, l.Retire(3))
	must(t, l.Append(cellsOf(5, 1)))
	open(t, d, 1, cellsOf(3, 1), cellsOf(4, 1), cellsOf(5, 1))
	must(t, l.Retire(5))
	must(t, l.Append(cellsOf(6, 1)))
	open(t, d, 1, cellsOf(5, 1), cellsOf(6, 1))
}

// P7.3: what is told of a log without power, and of a dead one.
func TestLastAndSegments(t *testing.T) {
	d := disk.New(1000)
	l := open(t, d, 9)
	wantRoll(t, l, 10, api.OK)
	lay(t, d, "log-100", nil)
	lay(t, d, "log-2", nil)
	wantLog(t, l, 10, 2, 9, 10, 100)
	d.Crash(0)
	wantLog(t, l, 10)
	want(t, "Append", l.Append(cellsOf(1, 1)), api.ErrPower)
	wantLog(t, l, 10)
	d.Start()
	wantLog(t, l, 10, 2, 9, 10, 100)
	must(t, d.Remove("log-9"))
	wantLog(t, l, 10, 2, 10, 100)
}

// P7.3: each call that has answered ErrPower ends the log, also if it did nothing; Start does not mend that.
func TestDead(t *testing.T) {
	calls := []func(l *wal.Log) api.Errno{
		func(l *wal.Log) api.Errno { return l.Append(cellsOf(1, 1)) },
		func(l *wal.Log) api.Errno { return l.Append(nil) },
		func(l *wal.Log) api.Errno { _, e := l.Roll(); return e },
		func(l *wal.Log) api.Errno { return l.Retire(0) },
		func(l *wal.Log) api.Errno { return l.Retire(math.MaxInt) },
	}
	for _, call := range calls {
		d := disk.New(1000)
		lay(t, d, "log-1", segment(t, nil, cellsOf(1, 1)))
		l := open(t, d, 1, cellsOf(1, 1))
		d.Crash(0)
		want(t, "without power", call(l), api.ErrPower)
		d.Start()
		before, ops := all(d), d.Ops()
		for range 2 {
			want(t, "Append", l.Append(cellsOf(2, 1)), api.ErrPower)
			want(t, "Append of nothing", l.Append(nil), api.ErrPower)
			wantRoll(t, l, 0, api.ErrPower)
			want(t, "Retire", l.Retire(2), api.ErrPower)
		}
		want(t, "the disk", all(d), before)
		want(t, "Ops", d.Ops(), ops)
		wantLog(t, l, 2, 1, 2)
		wantLog(t, open(t, d, 1, cellsOf(1, 1)), 3, 1, 2, 3)
	}
}

// P7.3: a log that did not meet the crash goes on: all it has is sure.
func TestCrashBetweenCalls(t *testing.T) {
	d := disk.New(1000)
	l := open(t, d, 1)
	must(t, l.Append(cellsOf(1, 1)))
	d.Crash(0)
	want(t, "Last", l.Last(), 1)
	wantLog(t, l, 1)
	d.Start()
	must(t, l.Append(cellsOf(2, 1)))
	wantRoll(t, l, 2, api.OK)
	must(t, l.Append(cellsOf(3, 1)))
	open(t, d, 1, cellsOf(1, 1), cellsOf(2, 1), cellsOf(3, 1))
}

// P7.3, R5: a Log that no call made, a disk in it or not.
func TestNotMade(t *testing.T) {
	d := disk.New(1000)
	lay(t, d, "log-1", segment(t, nil, cellsOf(1, 1)))
	before, ops := all(d), d.Ops()
	for _, l := range []*wal.Log{nil, {}, new(wal.Log), {Disk: d}} {
		for range 2 {
			want(t, "Append", l.Append(cellsOf(1, 1)), api.ErrMade)
			want(t, "Append of nothing", l.Append(nil), api.ErrMade)
			wantRoll(t, l, 0, api.ErrMade)
			want(t, "Retire", l.Retire(5), api.ErrMade)
			want(t, "Retire of nothing", l.Retire(0), api.ErrMade)
			wantLog(t, l, 0)
		}
	}
	want(t, "the disk", all(d), before)
	want(t, "Ops", d.Ops(), ops)
	d.Crash(0)
	want(t, "Append without power", (&wal.Log{Disk: d}).Append(nil), api.ErrMade)
}

// R3: Append leaves its argument as it was, and keeps nothing of it.
func TestAppendMemory(t *testing.T) {
	d := disk.New(1000)
	l := open(t, d, 1)
	room := cellsOf(1, 6)
	must(t, l.Append(room[:3]))
	if !slices.Equal(room, cellsOf(1, 6)) {
		t.Errorf("Append changed its argument: %v", room)
	}
	for i := range room {
		room[i] = cellOf(77)
	}
	open(t, d, 1, cellsOf(1, 3))
}

// R3: what Open and Segments told is the caller's own.
func TestToldMemory(t *testing.T) {
	d := disk.New(1000)
	lay(t, d, "log-1", segment(t, nil, cellsOf(1, 3), cellsOf(4, 2)))
	lay(t, d, "log-2", segment(t, nil, cellsOf(6, 1)))
	l, told, e := wal.Open(d, 1)
	must(t, e)
	for i := range told {
		_ = append(told[i], cellOf(99))
		told[i][0] = cellOf(99)
	}
	numbers := l.Segments()
	for i := range numbers[:cap(numbers)] {
		numbers[:cap(numbers)][i] = 50
	}
	wantLog(t, l, 3, 1, 2, 3)
	must(t, l.Append(cellsOf(7, 1)))
	open(t, d, 1, cellsOf(1, 3), cellsOf(4, 2), cellsOf(6, 1), cellsOf(7, 1))
}

// R4: two logs on two disks have nothing in common.
func TestLogsAreApart(t *testing.T) {
	one, two := disk.New(1000), disk.New(1000)
	first, second := open(t, one, 1), open(t, two, 5)
	must(t, first.Append(cellsOf(1, 1)))
	wantRoll(t, second, 6, api.OK)
	must(t, second.Append(cellsOf(2, 1)))
	two.Crash(0)
	want(t, "the second", second.Append(cellsOf(3, 1)), api.ErrPower)
	must(t, first.Append(cellsOf(4, 1)))
	wantLog(t, first, 1, 1)
	open(t, one, 1, cellsOf(1, 1), cellsOf(4, 1))
	two.Start()
	open(t, two, 1, cellsOf(2, 1))
}
