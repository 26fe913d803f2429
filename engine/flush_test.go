package engine_test

import (
	"fmt"
	"math/bits"
	"slices"
	"strings"
	"testing"

	"skerry/api"
	"skerry/disk"
	"skerry/engine"
	"skerry/manifest"
)

// flushNeeds: how many free sectors a Flush of these cells needs, behind which the manifest is m, if there is no file manifest.new.
func flushNeeds(t *testing.T, cells []api.Cell, m manifest.Manifest) int {
	t.Helper()
	b, errno := manifest.Bytes(m)
	must(t, errno)
	const heads = 3 // of the table, the segment and the manifest
	return heads + disk.Sectors(len(tableOf(t, cells))) + disk.Sectors(len(b))
}

// P14.3: of an empty memory nothing is done, whatever there is no room for.
func TestFlushOfEmptyMemory(t *testing.T) {
	d := disk.New(1)
	e := open(t, d, 2, 2)
	must(t, d.Arm(1, 0))
	before := all(d)
	want(t, "Flush", e.Flush(), api.OK)
	want(t, "the disk", all(d), before)
	wantTold(t, e, nil, nil)

	d = thirty(t, 30)
	e = open(t, d, 2, 2)
	before = all(d)
	told := view(e)
	want(t, "Flush", e.Flush(), api.OK)
	want(t, "the disk", all(d), before)
	want(t, "what is told", view(e), told)
}

// P14.3, P14.7: its operations, what is left of files, and what is told behind it.
func TestFlush(t *testing.T) {
	d := laid(t, 1000, run(1, 3))
	lay(t, d, "log-1", recordOf(t, run(4, 4)))
	lay(t, d, "log-4", recordOf(t, run(5, 5)))
	e := open(t, d, 400, 2)
	must(t, e.Apply([]api.Cell{live(2, 7), dead(6, 1, 1)}))
	memory := []api.Cell{live(2, 7), live(4, 1), live(5, 1), dead(6, 1, 1)}
	cells := e.All()
	ops := d.Ops()
	must(t, e.Flush())
	// The table 3, the segment 2, the manifest 4, and three segments that go.
	want(t, "Ops", d.Ops()-ops, 12)
	want(t, "Dirty", d.Dirty(), 0)
	wantList(t, d, "log-6", "manifest", "tab-1", "tab-2")
	wantFile(t, d, "tab-2", tableOf(t, memory))
	wantFile(t, d, "log-6", nil)
	wantManifest(t, d, manifestOf(3, 6, 1, 2))
	wantTold(t, e, nil, []int{1, 2}, run(1, 3), memory)
	wantCells(t, "All behind a flush", e.All(), cells)
	wantTold(t, open(t, d, 400, 2), nil, []int{1, 2}, run(1, 3), memory)
}

// P14.3: memory is new behind a flush: what was flushed is not flushed again.
func TestFlushAgain(t *testing.T) {
	d := disk.New(1000)
	e := open(t, d, 400, 2)
	for n := 1; n <= 5; n++ {
		must(t, e.Apply(run(n, 2*n)))
		must(t, e.Flush())
		ops := d.Ops()
		must(t, e.Flush())
		want(t, "Ops", d.Ops(), ops)
	}
	wantTold(t, e, nil, []int{1, 2, 3, 4, 5}, run(1, 2), run(2, 4), run(3, 6), run(4, 8), run(5, 10))
	wantList(t, d, "log-6", "manifest", "tab-1", "tab-2", "tab-3", "tab-4", "tab-5")
	must(t, e.Apply(run(1, 1)))
	wantFile(t, d, "log-6", recordOf(t, run(1, 1)))
}

// thirty: a disk with so many tables of one cell each.
func thirty(t *testing.T, tables int) *disk.Disk {
	t.Helper()
	var lists [][]api.Cell
	for n := 1; n <= tables; n++ {
		lists = append(lists, run(n, n))
	}
	return laid(t, 5000, lists...)
}

// P14.3: with 29 tables there is one more; with 30 it is ErrFull, ahead of all else.
func TestFlushWithManyTables(t *testing.T) {
	d := thirty(t, 29)
	e := open(t, d, 400, 16)
	must(t, e.Apply(run(100, 101)))
	must(t, e.Flush())
	want(t, "tables", len(e.Tables()), 30)
	must(t, e.Apply(run(102, 103)))
	for _, armed := range []int{0, 1} {
		must(t, d.Arm(armed, 0))
		disk, told := all(d), view(e)
		want(t, "Flush", e.Flush(), api.ErrFull)
		want(t, "the disk", all(d), disk)
		want(t, "what is told", view(e), told)
	}
	must(t, d.Arm(0, 0))
	wantCompact(t, e, 0, 0, true, api.OK)
	must(t, e.Flush())
	wantTold(t, e, nil, []int{31, 32}, slices.Concat(run(1, 29), run(100, 101)), run(102, 103))
}

// room is what a Flush with so many free sectors leaves.
type room struct {
	free  int
	errno api.Errno
	ops   int
	left  []string
	table []byte
}

// rooms: each number of free sectors, up to one more than a Flush needs.
func rooms(t *testing.T, cells []api.Cell, m manifest.Manifest) []room {
	b := tableOf(t, cells)
	table := disk.Sectors(len(b))
	full := []room{{0, api.ErrFull, 0, nil, nil}}
	for free := 1; free < 1+table; free++ {
		full = append(full, room{free, api.ErrFull, 1, []string{"tab-1"}, nil})
	}
	full = append(full,
		room{1 + table, api.ErrFull, 3, []string{"tab-1"}, b},
		room{2 + table, api.ErrFull, 5, []string{"log-2", "tab-1"}, b})
	needs := flushNeeds(t, cells, m)
	for free := 3 + table; free < needs; free++ {
		full = append(full, room{free, api.ErrFull, 6, []string{"log-2", "manifest.new", "tab-1"}, b})
	}
	return append(full, room{needs, api.OK, 10, nil, b}, room{needs + 1, api.OK, 10, nil, b})
}

// P14.3: too little room for each step: nothing has changed but files and the log's segment.
func TestFlushWithLittleRoom(t *testing.T) {
	for _, cells := range [][]api.Cell{run(1, 1), run(1, 9)} {
		for _, r := range rooms(t, cells, manifestOf(2, 2, 1)) {
			d := disk.New(1000)
			e := open(t, d, 400, 2)
			must(t, e.Apply(cells))
			fill(t, d, 1000, r.free)
			ops := d.Ops()
			want(t, fmt.Sprintf("Flush with %d free sectors", r.free), e.Flush(), r.errno)
			want(t, "Ops", d.Ops()-ops, r.ops)
			want(t, "On", d.On(), true)
			if r.errno == api.OK {
				wantTold(t, e, nil, []int{1}, cells)
				wantList(t, d, "log-2", "manifest", "rest", "tab-1")
				continue
			}
			wantTold(t, e, cells, nil)
			wantList(t, d, slices.Sorted(slices.Values(append(r.left, "log-1", "rest")))...)
			if r.left != nil {
				wantFile(t, d, "tab-1", r.table)
			}
			wantGoesOn(t, d, e, cells)
		}
	}
}

// wantGoesOn: an engine whose Flush found no room is as it was; with room it takes cells, and flushes.
func wantGoesOn(t *testing.T, d *disk.Disk, e *engine.Engine, cells []api.Cell) {
	t.Helper()
	must(t, d.Remove("rest"))
	must(t, e.Apply(run(50, 50)))
	wantTold(t, open(t, d, 400, 2), slices.Concat(cells, run(50, 50)), nil)
	must(t, e.Flush())
	wantTold(t, e, nil, []int{1}, slices.Concat(cells, run(50, 50)))
	wantTold(t, open(t, d, 400, 2), nil, []int{1}, slices.Concat(cells, run(50, 50)))
}

// P14.3: as many files as there may be, or a few less.
func TestFlushWithManyFiles(t *testing.T) {
	for spare, left := range [][]string{nil, {"tab-1"}, {"log-2", "tab-1"}, {}} {
		d := disk.New(1000)
		e := open(t, d, 400, 2)
		must(t, e.Apply(run(1, 3)))
		crowd(t, d, api.MaxFiles-spare)
		before := d.List()
		if spare == 3 {
			must(t, e.Flush())
			wantTold(t, e, nil, []int{1}, run(1, 3))
			want(t, "files", len(d.List()), api.MaxFiles-1)
			continue
		}
		want(t, "Flush", e.Flush(), api.ErrFull)
		wantList(t, d, slices.Sorted(slices.Values(append(before, left...)))...)
		wantTold(t, e, run(1, 3), nil)
		for i := range 5 {
			must(t, d.Remove(fmt.Sprint("x", i)))
		}
		wantTold(t, open(t, d, 400, 2), run(1, 3), nil)
		must(t, e.Flush())
		wantTold(t, e, nil, []int{1}, run(1, 3))
	}
}

// P14.3: what stood in the files of a Flush that failed is no hindrance.
func TestFlushOverFiles(t *testing.T) {
	d := disk.New(1000)
	lay(t, d, "tab-1", make([]byte, 500))
	lay(t, d, "manifest.new", make([]byte, 50))
	e := open(t, d, 400, 2)
	must(t, e.Apply(run(1, 3)))
	must(t, e.Flush())
	wantList(t, d, "log-2", "manifest", "tab-1")
	wantTold(t, open(t, d, 400, 2), nil, []int{1}, run(1, 3))
}

// P14.3: a memory that is too great for a table: of too many cells, or with too long keys.
func TestFlushOfTooMuch(t *testing.T) {
	long := run(1, 16000)
	for i := range long {
		long[i].Key.Part = strings.Repeat("\x00", api.MaxText)
	}
	for _, cells := range [][]api.Cell{run(1, 20001), long} {
		d := logged(t, cells)
		e := openHigh(t, d)
		disk := all(d)
		want(t, "Flush", e.Flush(), api.ErrFull)
		want(t, "the disk", all(d), disk)
		wantCells(t, "Memory", e.Memory(), cells)
		must(t, e.Apply(cells[:1]))
		want(t, "tables", len(e.Tables()), 0)
	}
	e := openHigh(t, logged(t, run(1, 20000)))
	must(t, e.Flush())
	wantNumbers(t, "Sizes", e.Sizes(), 20000)
	wantCells(t, "All", e.All(), run(1, 20000))
}

// openHigh: with levels of which each is half as often there as the one below it, for memories of many cells.
func openHigh(t *testing.T, d *disk.Disk) *engine.Engine {
	t.Helper()
	var levels []int
	for i := 1; i <= 128; i++ {
		levels = append(levels, 1+bits.TrailingZeros(uint(i)))
	}
	e, errno := engine.Open(d, levels, 400, 2)
	must(t, errno)
	return e
}

// logged: a disk whose log has these cells.
func logged(t *testing.T, cells []api.Cell) *disk.Disk {
	t.Helper()
	var log []byte
	for record := range slices.Chunk(cells, api.MaxCells) {
		log = append(log, recordOf(t, record)...)
	}
	d := disk.New(1 << 20)
	lay(t, d, "log-1", log)
	return d
}

// P14.3: the last numbers of tables and of segments; what cannot be numbered is not stored.
func TestFlushAtTheLastNumbers(t *testing.T) {
	d := disk.New(1000)
	must(t, manifest.Store(d, manifestOf(top-1, top-1)))
	e := open(t, d, 400, 2)
	must(t, e.Apply(run(1, 1)))
	must(t, e.Flush())
	wantManifest(t, d, manifestOf(top, top, top-1))
	wantList(t, d, "log-999999999", "manifest", "tab-999999998")
	must(t, e.Apply(run(2, 2)))
	want(t, "Flush without a segment more", e.Flush(), api.ErrFull)
	wantTold(t, e, run(2, 2), []int{top - 1}, run(1, 1))
	wantManifest(t, d, manifestOf(top, top, top-1))

	d = disk.New(1000)
	must(t, manifest.Store(d, manifestOf(top, 1)))
	e = open(t, d, 400, 2)
	must(t, e.Apply(run(2, 2)))
	want(t, "Flush without a table more", e.Flush(), api.ErrArg)
	wantTold(t, e, run(2, 2), nil)
	wantManifest(t, d, manifestOf(top, 1))
	wantTold(t, open(t, d, 400, 2), run(2, 2), nil)
}

// P14.3: a segment that somebody took away is no hindrance to those that are retired, nor to memory.
func TestFlushWithoutSegments(t *testing.T) {
	d := disk.New(1000)
	lay(t, d, "log-1", recordOf(t, run(1, 1)))
	lay(t, d, "log-2", recordOf(t, run(2, 2)))
	e := open(t, d, 400, 2)
	must(t, d.Remove("log-1"))
	must(t, d.Remove("log-3"))
	must(t, e.Flush())
	wantTold(t, e, nil, []int{1}, run(1, 2))
	wantList(t, d, "log-4", "manifest", "tab-1")
}
