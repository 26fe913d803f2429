package engine_test

import (
	"bytes"
	"fmt"
	"math"
	"slices"
	"testing"

	"skerry/api"
	"skerry/cell"
	"skerry/disk"
	"skerry/engine"
	"skerry/manifest"
	"skerry/table"
	"skerry/wal"
)

const top = 999999999 // of the numbers of tables and segments

func want[T comparable](t *testing.T, what string, got, wanted T) {
	t.Helper()
	if got != wanted {
		t.Errorf("%s: %v, want %v", what, got, wanted)
	}
}

// must: what a test builds on, so that it ends where that fails.
func must(t *testing.T, errno api.Errno) {
	t.Helper()
	if errno != api.OK {
		t.Fatalf("a call answered %v", errno)
	}
}

func live(row, time int) api.Cell {
	return api.Cell{Key: api.Key{Table: "t", Part: "p", Row: row, Column: "c"}, Version: api.Version{Time: time, Value: api.Value{Kind: api.Int, N: row}}}
}

func dead(row, time, local int) api.Cell {
	c := live(row, time)
	c.Version = api.Version{Time: time, Dead: true, Local: local}
	return c
}

// run: live cells of the rows from first to last, of time 1.
func run(first, last int) []api.Cell {
	var l []api.Cell
	for row := first; row <= last; row++ {
		l = append(l, live(row, 1))
	}
	return l
}

// all tells the whole of a disk with power.
func all(d *disk.Disk) string {
	s := fmt.Sprintln(d.On(), d.Used(), d.Dirty(), d.Ops())
	for _, name := range d.List() {
		b, _ := d.Read(name)
		s += fmt.Sprintf("%s %x\n", name, b)
	}
	return s
}

// lay: a file of bytes that are sure.
func lay(t *testing.T, d *disk.Disk, name string, b []byte) {
	t.Helper()
	must(t, d.Create(name))
	must(t, d.Append(name, b))
	must(t, d.Sync(name))
}

// fill: the disk of that room has so many free sectors from here on; the file rest has the others.
func fill(t *testing.T, d *disk.Disk, room, free int) {
	t.Helper()
	must(t, d.Create("rest"))
	if sectors := room - d.Used() - free; sectors >= 0 {
		must(t, d.Append("rest", make([]byte, 16*sectors)))
		must(t, d.Sync("rest"))
	}
	want(t, "free sectors", room-d.Used(), free)
}

// crowd: the disk has so many files from here on.
func crowd(t *testing.T, d *disk.Disk, files int) {
	t.Helper()
	for i := 0; len(d.List()) < files; i++ {
		must(t, d.Create(fmt.Sprint("x", i)))
	}
	want(t, "files", len(d.List()), files)
}

func tableOf(t *testing.T, cells []api.Cell) []byte {
	t.Helper()
	b, errno := table.Write(cells)
	must(t, errno)
	return b
}

func recordOf(t *testing.T, cells []api.Cell) []byte {
	t.Helper()
	b, errno := wal.Record(cells)
	must(t, errno)
	return b
}

func manifestOf(next, from int, tables ...int) manifest.Manifest {
	return manifest.Manifest{Tables: tables, Next: next, From: from}
}

// laid: a disk with tables, numbered from 1 on, and a log that begins with log-1.
func laid(t *testing.T, room int, lists ...[]api.Cell) *disk.Disk {
	t.Helper()
	d := disk.New(room)
	m := manifest.Begin()
	for _, l := range lists {
		lay(t, d, manifest.File(m.Next), tableOf(t, l))
		m.Tables = append(m.Tables, m.Next)
		m.Next++
	}
	must(t, manifest.Store(d, m))
	return d
}

func open(t *testing.T, d *disk.Disk, flush, tier int) *engine.Engine {
	t.Helper()
	e, errno := engine.Open(d, []int{1, 2, 1, 3}, flush, tier)
	if errno != api.OK || e == nil {
		t.Fatalf("Open: %v, %v", e, errno)
	}
	return e
}

func wantNoEngine(t *testing.T, d *disk.Disk, flush, tier int, errno api.Errno) {
	t.Helper()
	if e, got := engine.Open(d, []int{1, 2}, flush, tier); e != nil || got != errno {
		t.Errorf("Open(%d, %d): %v, %v; want nothing, %v", flush, tier, e, got, errno)
	}
}

func wantCells(t *testing.T, what string, got, wanted []api.Cell) {
	t.Helper()
	if !slices.Equal(got, wanted) {
		t.Errorf("%s: %v, want %v", what, got, wanted)
	}
}

func wantNumbers(t *testing.T, what string, got []int, wanted ...int) {
	t.Helper()
	if !slices.Equal(got, wanted) {
		t.Errorf("%s: %v, want %v", what, got, wanted)
	}
}

func wantCompact(t *testing.T, e *engine.Engine, now, grace int, done bool, errno api.Errno) {
	t.Helper()
	if ok, got := e.Compact(now, grace); ok != done || got != errno {
		t.Errorf("Compact(%d, %d): %v, %v; want %v, %v", now, grace, ok, got, done, errno)
	}
}

func wantList(t *testing.T, d *disk.Disk, names ...string) {
	t.Helper()
	if got := d.List(); !slices.Equal(got, names) {
		t.Errorf("List: %q, want %q", got, names)
	}
}

func wantFile(t *testing.T, d *disk.Disk, name string, wanted []byte) {
	t.Helper()
	if b, errno := d.Read(name); errno != api.OK || !bytes.Equal(b, wanted) {
		t.Errorf("%s: %x, %v; want %x", name, b, errno, wanted)
	}
}

func wantManifest(t *testing.T, d *disk.Disk, wanted manifest.Manifest) {
	t.Helper()
	m, errno := manifest.Load(d)
	if errno != api.OK || fmt.Sprint(m) != fmt.Sprint(wanted) {
		t.Errorf("manifest: %v, %v; want %v", m, errno, wanted)
	}
}

// view is all that an engine tells.
func view(e *engine.Engine) string {
	return fmt.Sprint(e.All(), e.Memory(), e.Tables(), e.Sizes(), e.Part("t", "p"), e.Part("u", "p"))
}

// wantTold: memory, and tables as they stand, with all that follows from these.
func wantTold(t *testing.T, e *engine.Engine, memory []api.Cell, numbers []int, tables ...[]api.Cell) {
	t.Helper()
	var sizes []int
	for _, l := range tables {
		sizes = append(sizes, len(l))
	}
	cells := cell.Norm(slices.Concat(slices.Concat(tables...), memory))
	wantCells(t, "Memory", e.Memory(), cell.Norm(memory))
	wantNumbers(t, "Tables", e.Tables(), numbers...)
	wantNumbers(t, "Sizes", e.Sizes(), sizes...)
	wantCells(t, "All", e.All(), cells)
	of := slices.DeleteFunc(slices.Clone(cells), func(c api.Cell) bool { return c.Key.Table != "t" || c.Key.Part != "p" })
	wantCells(t, "Part", e.Part("t", "p"), of)
}

func wantDead(t *testing.T, e *engine.Engine) {
	t.Helper()
	before := view(e)
	for _, l := range [][]api.Cell{nil, {{}}, run(1, 1), run(1, api.MaxCells+1)} {
		want(t, "Apply of a dead engine", e.Apply(l), api.ErrPower)
	}
	want(t, "Flush of a dead engine", e.Flush(), api.ErrPower)
	wantCompact(t, e, 0, 0, false, api.ErrPower)
	want(t, "what a dead engine tells", view(e), before)
}

// The example of the chapter, P14.2, P14.4.
func TestExample(t *testing.T) {
	d := disk.New(1000)
	e := open(t, d, 2, 2)
	must(t, e.Apply(run(1, 1)))
	wantTold(t, e, run(1, 1), nil)
	must(t, e.Apply(run(2, 2)))
	wantTold(t, e, nil, []int{1}, run(1, 2))
	must(t, e.Apply(run(3, 3)))
	must(t, e.Apply(run(4, 4)))
	wantTold(t, e, nil, []int{1, 2}, run(1, 2), run(3, 4))
	wantCompact(t, e, 0, 0, true, api.OK)
	wantTold(t, e, nil, []int{3}, run(1, 4))
	wantList(t, d, "log-3", "manifest", "tab-3")
	wantTold(t, open(t, d, 2, 2), nil, []int{3}, run(1, 4))
}

// P14.1: of an empty disk; one segment more each time.
func TestOpenOfEmptyDisk(t *testing.T) {
	for _, room := range []int{1, 2, 1000, 1 << 30} {
		d := disk.New(room)
		e := open(t, d, 1, 2)
		wantTold(t, e, nil, nil)
		wantList(t, d, "log-1")
		want(t, "Ops", d.Ops(), 2)
		want(t, "Dirty", d.Dirty(), 0)
		if room > 1 {
			wantTold(t, open(t, d, 1, 2), nil, nil)
			wantList(t, d, "log-1", "log-2")
		} else {
			wantNoEngine(t, d, 1, 2, api.ErrFull)
		}
	}
	wantNoEngine(t, disk.New(0), 1, 2, api.ErrFull)
}

// P14.1: flush and tier at their ends.
func TestOpenArguments(t *testing.T) {
	flushes := []int{math.MinInt, -400, -1, 0, 1, 2, api.MaxCells - 1, api.MaxCells, api.MaxCells + 1, 1 << 32, 1<<32 + 5, math.MaxInt}
	tiers := []int{math.MinInt, -2, -1, 0, 1, 2, 3, 15, 16, 17, 1 << 32, 1<<32 + 5, math.MaxInt}
	for _, flush := range flushes {
		for _, tier := range tiers {
			d := laid(t, 1000, run(1, 3))
			if flush >= 1 && flush <= 400 && tier >= 2 && tier <= 16 {
				wantTold(t, open(t, d, flush, tier), nil, []int{1}, run(1, 3))
				continue
			}
			before := all(d)
			wantNoEngine(t, d, flush, tier, api.ErrArg)
			want(t, "the disk", all(d), before)
		}
	}
}

// P14.1: no levels, and levels of any kind, are all the same.
func TestLevels(t *testing.T) {
	for _, levels := range [][]int{nil, {}, {1}, {0}, {-1, 99}, {8, 8, 8}, {math.MinInt, math.MaxInt}, make([]int, 1000)} {
		d := disk.New(1000)
		e, errno := engine.Open(d, levels, 3, 2)
		must(t, errno)
		must(t, e.Apply(run(5, 6)))
		wantTold(t, e, run(5, 6), nil)
		must(t, e.Apply(run(1, 2)))
		must(t, e.Apply(run(7, 7)))
		wantTold(t, e, run(7, 7), []int{1}, slices.Concat(run(1, 2), run(5, 6)))
		e, errno = engine.Open(d, levels, 3, 2)
		must(t, errno)
		wantTold(t, e, run(7, 7), []int{1}, slices.Concat(run(1, 2), run(5, 6)))
	}
}

// R5, P14.1: a disk that no call made, whatever else is wrong.
func TestNoDisk(t *testing.T) {
	for _, d := range []*disk.Disk{nil, {}, disk.New(-1)} {
		wantNoEngine(t, d, 1, 2, api.ErrMade)
		wantNoEngine(t, d, 0, 2, api.ErrMade)
		wantNoEngine(t, d, 1, 17, api.ErrMade)
	}
}

// P14.1: a disk without power, whatever else is wrong.
func TestOpenWithoutPower(t *testing.T) {
	rotten := laid(t, 1000, run(1, 2))
	must(t, rotten.Spoil("manifest", 9, 1))
	for _, d := range []*disk.Disk{disk.New(0), disk.New(1000), laid(t, 1000, run(1, 2)), rotten} {
		before := all(d)
		d.Crash(0)
		wantNoEngine(t, d, 1, 2, api.ErrPower)
		wantNoEngine(t, d, 0, 2, api.ErrPower)
		wantNoEngine(t, d, 1, 1, api.ErrPower)
		d.Start()
		want(t, "the disk", all(d), before)
	}
}

// R5: an engine that no call made.
func TestNoEngine(t *testing.T) {
	for _, e := range []*engine.Engine{nil, {}, new(engine.Engine)} {
		for range 2 {
			for _, l := range [][]api.Cell{nil, {{}}, run(1, 2)} {
				want(t, "Apply", e.Apply(l), api.ErrMade)
			}
			want(t, "Flush", e.Flush(), api.ErrMade)
			wantCompact(t, e, 0, 0, false, api.ErrMade)
			wantTold(t, e, nil, nil)
			want(t, "Part", len(e.Part("", "")), 0)
		}
	}
}

// P14.1: the order of the errors: of each two that apply the first one is told, and the disk stays as it is.
func TestOpenOrderOfErrors(t *testing.T) {
	refused := func(d *disk.Disk, flush, tier int, errno api.Errno) {
		t.Helper()
		before := all(d)
		wantNoEngine(t, d, flush, tier, errno)
		want(t, "the disk", all(d), before)
	}
	d := laid(t, 1000, run(1, 2))
	must(t, d.Spoil("manifest", 9, 1))
	refused(d, 0, 2, api.ErrArg)
	refused(d, 1, 1, api.ErrArg)
	refused(d, 1, 2, api.ErrCorrupt)

	d = laid(t, 1000, run(1, 2))
	must(t, d.Remove("tab-1"))
	crowd(t, d, api.MaxFiles)
	refused(d, 1, 17, api.ErrArg)
	refused(d, 1, 2, api.ErrCorrupt)

	d = laid(t, 1000, run(1, 2))
	crowd(t, d, api.MaxFiles)
	refused(d, 401, 2, api.ErrArg)
	refused(d, 1, 2, api.ErrFull)
}

// P14.1: a file manifest that is none, in each of its bits and wherever it is cut.
func TestOpenOfRottenManifest(t *testing.T) {
	d := laid(t, 1000, run(1, 2), run(3, 3))
	b, _ := d.Read("manifest")
	before := all(d)
	for i := range 8 * len(b) {
		must(t, d.Spoil("manifest", i/8, i%8))
		wantNoEngine(t, d, 1, 2, api.ErrCorrupt)
		must(t, d.Spoil("manifest", i/8, i%8))
	}
	want(t, "the disk", all(d), before)
	for n := range len(b) {
		lay(t, d, "manifest", b[:n])
		wantNoEngine(t, d, 1, 2, api.ErrCorrupt)
	}
	lay(t, d, "manifest", append(bytes.Clone(b), 0))
	wantNoEngine(t, d, 1, 2, api.ErrCorrupt)
	lay(t, d, "manifest", b)
	wantTold(t, open(t, d, 1, 2), nil, []int{1, 2}, run(1, 2), run(3, 3))
}

// P14.1: a table's file that is not there, is none, or is rotten; nothing of the log is touched then.
func TestOpenOfRottenTables(t *testing.T) {
	lists := [][]api.Cell{run(1, 2), run(3, 12), run(13, 13)}
	for n := 1; n <= 3; n++ {
		name := manifest.File(n)
		d := laid(t, 1000, lists...)
		lay(t, d, "log-1", []byte("torn"))
		b, _ := d.Read(name)
		before := all(d)
		for i := range 8 * len(b) {
			must(t, d.Spoil(name, i/8, i%8))
			wantNoEngine(t, d, 1, 2, api.ErrCorrupt)
			must(t, d.Spoil(name, i/8, i%8))
		}
		want(t, "the disk", all(d), before)
		for _, none := range [][]byte{nil, {0}, b[:len(b)-1], b[1:], append(bytes.Clone(b), 0), make([]byte, 300)} {
			lay(t, d, name, none)
			wantNoEngine(t, d, 1, 2, api.ErrCorrupt)
		}
		must(t, d.Remove(name))
		before = all(d)
		wantNoEngine(t, d, 1, 2, api.ErrCorrupt)
		want(t, "the disk", all(d), before)
		lay(t, d, name, b)
		wantTold(t, open(t, d, 1, 2), nil, []int{1, 2, 3}, lists...)
	}
}

// P14.1: the tables stand in the manifest's order; files that it does not name are not looked at.
func TestOpenInTheManifestsOrder(t *testing.T) {
	d := laid(t, 1000, run(1, 1), run(2, 3), run(4, 6))
	lay(t, d, "tab-4", []byte("none"))
	lay(t, d, "manifest.new", []byte("none"))
	must(t, manifest.Store(d, manifestOf(9, 1, 3, 1)))
	wantTold(t, open(t, d, 400, 2), nil, []int{3, 1}, run(4, 6), run(1, 1))
}

// P14.1: the log's records from From on are in memory, joined; those of elder segments are not.
func TestOpenReadsTheLog(t *testing.T) {
	d := laid(t, 1000, run(1, 2))
	must(t, manifest.Store(d, manifestOf(2, 5, 1)))
	lay(t, d, "log-4", []byte("rotten, but below From"))
	lay(t, d, "log-5", slices.Concat(recordOf(t, run(10, 11)), recordOf(t, []api.Cell{live(11, 9), live(12, 1)})))
	lay(t, d, "log-7", nil)
	lay(t, d, "log-12", slices.Concat(recordOf(t, []api.Cell{dead(10, 3, 7)}), recordOf(t, []api.Cell{live(11, 2)})))
	memory := []api.Cell{dead(10, 3, 7), live(11, 9), live(12, 1)}
	before := d.List()
	wantTold(t, open(t, d, 400, 2), memory, []int{1}, run(1, 2))
	wantList(t, d, slices.Sorted(slices.Values(append(before, "log-13")))...)
	wantTold(t, open(t, d, 400, 2), memory, []int{1}, run(1, 2))
}

// P14.1: however many cells the log has, Open flushes none.
func TestOpenFlushesNothing(t *testing.T) {
	d := disk.New(1000)
	lay(t, d, "log-1", slices.Concat(recordOf(t, run(1, 3)), recordOf(t, run(4, 9))))
	e := open(t, d, 1, 2)
	wantTold(t, e, run(1, 9), nil)
	wantList(t, d, "log-1", "log-2")
	must(t, e.Apply(run(5, 5)))
	wantTold(t, e, nil, []int{1}, run(1, 9))
	wantList(t, d, "log-3", "manifest", "tab-1")
}

// P14.1: the last segment's torn end is mended, wherever it is torn; that of another one is ErrCorrupt.
func TestOpenOfTornLog(t *testing.T) {
	first, second := recordOf(t, run(1, 2)), recordOf(t, run(3, 3))
	for n := range len(second) {
		d := laid(t, 1000, run(7, 9))
		lay(t, d, "log-3", slices.Concat(first, second[:n]))
		wantTold(t, open(t, d, 400, 2), run(1, 2), []int{1}, run(7, 9))
		wantFile(t, d, "log-3", first)
		wantTold(t, open(t, d, 400, 2), run(1, 2), []int{1}, run(7, 9))
		if n == 0 {
			continue
		}
		d = laid(t, 1000, run(7, 9))
		lay(t, d, "log-3", slices.Concat(first, second[:n]))
		lay(t, d, "log-4", second)
		before := all(d)
		wantNoEngine(t, d, 400, 2, api.ErrCorrupt)
		want(t, "the disk", all(d), before)
	}
}

// P14.1: each bit of a log's record that is turned takes the record away, and what is behind it.
func TestOpenOfSpoiledLog(t *testing.T) {
	for bit := range 8 * len(recordOf(t, run(3, 3))) {
		d := disk.New(1000)
		first := recordOf(t, run(1, 2))
		lay(t, d, "log-1", slices.Concat(first, recordOf(t, run(3, 3)), recordOf(t, run(4, 4))))
		must(t, d.Spoil("log-1", len(first)+bit/8, bit%8))
		wantTold(t, open(t, d, 400, 2), run(1, 2), nil)
	}
}

// P14.1: numbers at their ends.
func TestOpenAtTheLastSegment(t *testing.T) {
	d := disk.New(1000)
	must(t, manifest.Store(d, manifestOf(1, top)))
	e := open(t, d, 2, 2)
	wantList(t, d, "log-999999999", "manifest")
	must(t, e.Apply(run(1, 1)))
	before := all(d)
	wantNoEngine(t, d, 2, 2, api.ErrFull)
	want(t, "the disk", all(d), before)
	wantTold(t, e, run(1, 1), nil)
}

// P14.2, P14.5: the power goes between calls; who does not call is not dead, who does is.
func TestPowerBetweenCalls(t *testing.T) {
	calls := map[string]func(*engine.Engine) api.Errno{
		"Apply":          func(e *engine.Engine) api.Errno { return e.Apply(run(1, 1)) },
		"Apply of none":  func(e *engine.Engine) api.Errno { return e.Apply(nil) },
		"Flush":          func(e *engine.Engine) api.Errno { return e.Flush() },
		"Compact":        func(e *engine.Engine) api.Errno { _, errno := e.Compact(0, 0); return errno },
		"nothing at all": nil,
	}
	for name, call := range calls {
		for _, memory := range [][]api.Cell{nil, run(7, 8)} {
			d := laid(t, 1000, run(1, 1), run(2, 3), run(4, 5))
			e := open(t, d, 10, 3)
			if memory != nil {
				must(t, e.Apply(memory))
			}
			d.Crash(0)
			wantTold(t, e, memory, []int{1, 2, 3}, run(1, 1), run(2, 3), run(4, 5))
			if call != nil {
				want(t, name, call(e), api.ErrPower)
				wantTold(t, e, memory, []int{1, 2, 3}, run(1, 1), run(2, 3), run(4, 5))
				d.Start()
				wantDead(t, e)
				e = open(t, d, 10, 3)
			}
			d.Start()
			wantTold(t, e, memory, []int{1, 2, 3}, run(1, 1), run(2, 3), run(4, 5))
			must(t, e.Apply(run(9, 9)))
			must(t, e.Flush())
			wantCompact(t, e, 0, 0, true, api.OK)
			wantCells(t, "All", e.All(), slices.Concat(run(1, 5), memory, run(9, 9)))
		}
	}
}

// P14.5: of cells of many tables and partitions, wherever they stand.
func TestPart(t *testing.T) {
	of := func(table, part string, row, time int) api.Cell {
		c := live(row, time)
		c.Key.Table, c.Key.Part = table, part
		return c
	}
	d := disk.New(1000)
	e := open(t, d, 400, 2)
	must(t, e.Apply([]api.Cell{of("t", "p", 1, 1), of("t", "q", 2, 1), of("u", "p", 1, 2)}))
	must(t, e.Flush())
	must(t, e.Apply([]api.Cell{of("t", "p", 1, 5), of("t", "p\x00", 3, 1)}))
	must(t, e.Flush())
	must(t, e.Apply([]api.Cell{of("t", "p", 0, 1), of("t", "p", 1, 4), of("t", "q", 2, 0)}))
	wantCells(t, "Part", e.Part("t", "p"), []api.Cell{of("t", "p", 0, 1), of("t", "p", 1, 5)})
	wantCells(t, "Part", e.Part("t", "q"), []api.Cell{of("t", "q", 2, 1)})
	wantCells(t, "Part", e.Part("u", "p"), []api.Cell{of("u", "p", 1, 2)})
	wantCells(t, "Part", e.Part("t", "p\x00"), []api.Cell{of("t", "p\x00", 3, 1)})
	for _, none := range [][2]string{{"", ""}, {"t", ""}, {"", "p"}, {"u", "q"}, {"T", "p"}, {"t", "p\x00\x00"}} {
		want(t, "cells of no partition", len(e.Part(none[0], none[1])), 0)
	}
	wantNumbers(t, "Sizes", e.Sizes(), 3, 2)
	want(t, "All", len(e.All()), 5)
}
