package engine_test

import (
	"fmt"
	"slices"
	"strings"
	"testing"

	"skerry/api"
	"skerry/disk"
)

// P14.2: no cells, too many, and cells that are not good are refused, and nothing has changed.
func TestApplyRefuses(t *testing.T) {
	with := func(c api.Cell, change func(*api.Cell)) api.Cell {
		change(&c)
		return c
	}
	bad := []api.Cell{
		{},
		with(live(1, 1), func(c *api.Cell) { c.Key.Table = "" }),
		with(live(1, 1), func(c *api.Cell) { c.Key.Part = "" }),
		with(live(1, 1), func(c *api.Cell) { c.Key.Part = strings.Repeat("p", api.MaxText+1) }),
		with(live(1, 1), func(c *api.Cell) { c.Key.Column = "" }),
		with(live(1, 1), func(c *api.Cell) { c.Version.Local = 1 }),
		with(live(1, 1), func(c *api.Cell) { c.Version.Value = api.Value{} }),
		with(dead(1, 1, 1), func(c *api.Cell) { c.Version.Value.Kind = api.Int }),
	}
	lists := [][]api.Cell{nil, {}, run(1, api.MaxCells+1), run(1, 3*api.MaxCells)}
	for _, c := range bad {
		lists = append(lists, []api.Cell{c}, []api.Cell{c, live(8, 9)}, []api.Cell{live(8, 9), c}, []api.Cell{live(8, 9), c, live(9, 9)})
	}
	d := laid(t, 1000, run(1, 2))
	e := open(t, d, 3, 2)
	must(t, e.Apply(run(3, 4)))
	disk, told := all(d), view(e)
	for _, l := range lists {
		want(t, fmt.Sprintf("Apply(%v)", l), e.Apply(l), api.ErrArg)
		want(t, "the disk", all(d), disk)
		want(t, "what is told", view(e), told)
	}
	must(t, e.Apply(run(5, 5)))
	wantTold(t, e, nil, []int{1, 2}, run(1, 2), run(3, 5))
}

// P14.2: a record in the log that is sure, then the cells in memory.
func TestApply(t *testing.T) {
	d := disk.New(1000)
	e := open(t, d, 400, 2)
	lists := [][]api.Cell{{live(3, 1)}, {live(2, 2), live(1, 5), live(2, 4)}, {dead(1, 5, 3)}, {live(1, 4), live(3, 1)}}
	var bytes []byte
	var put []api.Cell
	for _, l := range lists {
		ops := d.Ops()
		must(t, e.Apply(l))
		want(t, "Ops", d.Ops()-ops, 2)
		want(t, "Dirty", d.Dirty(), 0)
		bytes = append(bytes, recordOf(t, l)...)
		put = append(put, l...)
		wantFile(t, d, "log-1", bytes)
		wantTold(t, e, put, nil)
	}
	wantCells(t, "All", e.All(), []api.Cell{dead(1, 5, 3), live(2, 4), live(3, 1)})
	wantList(t, d, "log-1")
	wantTold(t, open(t, d, 400, 2), put, nil)
}

// P14.2: of so many cells that memory is flushed, and of one fewer; a flush of 1 and of MaxCells, too.
func TestApplyFlushes(t *testing.T) {
	for _, flush := range []int{1, 2, 3, 10, api.MaxCells - 1, api.MaxCells} {
		for _, first := range []int{0, 1, flush / 2, flush - 1} {
			if first >= flush {
				continue
			}
			d := disk.New(5000)
			e := open(t, d, flush, 2)
			if first > 0 {
				must(t, e.Apply(run(1, first)))
			}
			wantTold(t, e, run(1, first), nil)
			if first < flush-1 {
				must(t, e.Apply(run(first+1, flush-1)))
			}
			wantTold(t, e, run(1, flush-1), nil)
			wantList(t, d, "log-1")
			must(t, e.Apply(run(flush, flush)))
			wantTold(t, e, nil, []int{1}, run(1, flush))
			wantList(t, d, "log-2", "manifest", "tab-1")
			wantManifest(t, d, manifestOf(2, 2, 1))
			wantFile(t, d, "log-2", nil)
			wantFile(t, d, "tab-1", tableOf(t, run(1, flush)))
			wantTold(t, open(t, d, flush, 2), nil, []int{1}, run(1, flush))
		}
	}
}

// P14.2: more cells than flush in one Apply are one table.
func TestApplyOfMany(t *testing.T) {
	d := disk.New(5000)
	e := open(t, d, 3, 2)
	must(t, e.Apply(run(1, 2)))
	must(t, e.Apply(run(3, 3+api.MaxCells-1)))
	wantTold(t, e, nil, []int{1}, run(1, 2+api.MaxCells))
	must(t, e.Apply(run(1, api.MaxCells)))
	wantTold(t, e, nil, []int{1, 2}, run(1, 2+api.MaxCells), run(1, api.MaxCells))
}

// P14.2: cells count, not versions: keys that come again do not make memory full.
func TestApplyOfTheSameKeys(t *testing.T) {
	d := disk.New(1000)
	e := open(t, d, 3, 2)
	for time := range 10 {
		must(t, e.Apply([]api.Cell{live(1, time), live(2, 9-time), live(1, time)}))
	}
	wantTold(t, e, []api.Cell{live(1, 9), live(2, 9)}, nil)
	must(t, e.Apply([]api.Cell{live(1, 10), live(3, 1)}))
	wantTold(t, e, nil, []int{1}, []api.Cell{live(1, 10), live(2, 9), live(3, 1)})
}

// P14.2: without room for the record nothing has changed.
func TestApplyToFullDisk(t *testing.T) {
	record := recordOf(t, run(1, 2))
	for free := range disk.Sectors(len(record)) + 2 {
		d := disk.New(1000)
		e := open(t, d, 400, 2)
		fill(t, d, 1000, free)
		disk, told := all(d), view(e)
		if 16*free >= len(record) {
			must(t, e.Apply(run(1, 2)))
			wantTold(t, e, run(1, 2), nil)
			continue
		}
		want(t, "Apply", e.Apply(run(1, 2)), api.ErrFull)
		want(t, "Apply of none", e.Apply(nil), api.ErrArg)
		want(t, "the disk", all(d), disk)
		want(t, "what is told", view(e), told)
		must(t, d.Remove("rest"))
		must(t, e.Apply(run(1, 2)))
		wantTold(t, open(t, d, 400, 2), run(1, 2), nil)
	}
}

// P14.2, P14.3: a flush within Apply that finds no room, at each of its steps: Apply answers OK, the next one flushes again.
func TestApplyWithoutRoomForFlush(t *testing.T) {
	record := disk.Sectors(len(recordOf(t, run(1, 2))))
	for free := record; ; free++ {
		d := disk.New(1000)
		e := open(t, d, 2, 2)
		fill(t, d, 1000, free)
		must(t, e.Apply(run(1, 2)))
		if len(e.Tables()) == 1 {
			wantTold(t, e, nil, []int{1}, run(1, 2))
			want(t, "sectors that were needed", free, record+flushNeeds(t, run(1, 2), manifestOf(2, 2, 1)))
			return
		}
		wantTold(t, e, run(1, 2), nil)
		must(t, d.Remove("rest"))
		wantTold(t, open(t, d, 2, 2), run(1, 2), nil)
		must(t, e.Apply(run(2, 3)))
		wantTold(t, e, nil, []int{1}, run(1, 3))
	}
}

// P14.2: an Apply whose flush found no room is told by the log for all that, also behind the segment that was rolled.
func TestApplyOnWithoutFlush(t *testing.T) {
	d := disk.New(1000)
	e := open(t, d, 1, 2)
	needs := flushNeeds(t, run(1, 1), manifestOf(2, 2, 1))
	record := disk.Sectors(len(recordOf(t, run(1, 1))))
	fill(t, d, 1000, record+needs-1)
	must(t, e.Apply(run(1, 1)))
	wantList(t, d, "log-1", "log-2", "manifest.new", "rest", "tab-1")
	wantFile(t, d, "manifest.new", nil)
	wantFile(t, d, "log-2", nil)
	must(t, d.Remove("tab-1"))
	must(t, d.Create("tab-1"))
	must(t, e.Apply([]api.Cell{dead(1, 1, 4)}))
	wantFile(t, d, "log-1", recordOf(t, run(1, 1)))
	wantFile(t, d, "log-2", recordOf(t, []api.Cell{dead(1, 1, 4)}))
	wantTold(t, e, []api.Cell{dead(1, 1, 4)}, nil)
	must(t, d.Remove("rest"))
	again := open(t, d, 1, 2)
	wantTold(t, again, []api.Cell{dead(1, 1, 4)}, nil)
	must(t, again.Flush())
	wantTold(t, again, nil, []int{1}, []api.Cell{dead(1, 1, 4)})
}

// P14.2, P14.3: with 30 tables memory grows; when there are fewer, the next Apply flushes all of it.
func TestApplyWithManyTables(t *testing.T) {
	d := disk.New(5000)
	e := open(t, d, 1, 16)
	var numbers []int
	var tables [][]api.Cell
	for n := 1; n <= 30; n++ {
		must(t, e.Apply(run(n, n)))
		numbers, tables = append(numbers, n), append(tables, run(n, n))
		wantTold(t, e, nil, numbers, tables...)
	}
	for n := 31; n <= 35; n++ {
		ops := d.Ops()
		must(t, e.Apply(run(n, n)))
		want(t, "Ops", d.Ops()-ops, 2)
		wantTold(t, e, run(31, n), numbers, tables...)
	}
	wantTold(t, open(t, d, 1, 16), run(31, 35), numbers, tables...)
	e = open(t, d, 1, 16)
	wantCompact(t, e, 0, 0, true, api.OK)
	wantTold(t, e, run(31, 35), []int{31}, run(1, 30))
	must(t, e.Apply(run(36, 36)))
	wantTold(t, e, nil, []int{31, 32}, run(1, 30), run(31, 36))
}

// P14.2: a log whose file somebody took away: the disk's error, and nothing has changed.
func TestApplyWithoutSegment(t *testing.T) {
	d := disk.New(1000)
	e := open(t, d, 3, 2)
	must(t, e.Apply(run(1, 1)))
	must(t, d.Remove("log-1"))
	want(t, "Apply", e.Apply(run(2, 2)), api.ErrNone)
	want(t, "Apply of none", e.Apply(nil), api.ErrArg)
	wantTold(t, e, run(1, 1), nil)
	must(t, e.Flush())
	must(t, e.Apply(run(2, 2)))
	wantTold(t, e, run(2, 2), []int{1}, run(1, 1))
}

// P14.2: rows at the ends of ints, values and texts of all kinds come back from log, memory and table.
func TestApplyOfAllKinds(t *testing.T) {
	most := strings.Repeat("\xff", api.MaxText)
	cells := []api.Cell{
		{Key: api.Key{Table: "a", Part: "\x00", Row: -1 << 63, Column: ""}},
		{Key: api.Key{Table: "a", Part: "\x00", Row: 1<<63 - 1, Column: "c"}, Version: api.Version{Time: -1 << 63, Value: api.Value{Kind: api.Int, N: -1 << 63}}},
		{Key: api.Key{Table: "t", Part: most, Row: 0, Column: "b"}, Version: api.Version{Time: 1<<63 - 1, Value: api.Value{Kind: api.Str, S: most}}},
		{Key: api.Key{Table: "t", Part: most, Row: 0, Column: "c"}, Version: api.Version{Dead: true, Local: -1 << 63}},
		{Key: api.Key{Table: "t", Part: most, Row: 1, Column: ""}, Version: api.Version{Dead: true, Time: 3, Local: 1<<63 - 1}},
	}
	d := disk.New(1000)
	e := open(t, d, 400, 2)
	backwards := slices.Clone(cells)
	slices.Reverse(backwards)
	must(t, e.Apply(backwards))
	wantTold(t, e, cells, nil)
	wantTold(t, open(t, d, 400, 2), cells, nil)
	e = open(t, d, 400, 2)
	must(t, e.Flush())
	wantTold(t, e, nil, []int{1}, cells)
	wantTold(t, open(t, d, 400, 2), nil, []int{1}, cells)
	wantCells(t, "Part", e.Part("a", "\x00"), cells[:2])
}
