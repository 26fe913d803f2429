package engine_test

import (
	"fmt"
	"math"
	"slices"
	"strings"
	"testing"

	"skerry/api"
	"skerry/cell"
	"skerry/disk"
	"skerry/manifest"
	"skerry/purge"
	"skerry/table"
)

// read: what a file has; nothing, if there is none.
func read(d *disk.Disk, name string) []byte {
	b, _ := d.Read(name)
	return b
}

// P14.4: none is chosen: nothing is done.
func TestCompactOfTooFew(t *testing.T) {
	for _, c := range []struct {
		tier  int
		lists [][]api.Cell
	}{
		{2, nil},
		{2, [][]api.Cell{run(1, 1)}},
		{2, [][]api.Cell{run(1, 5), run(1, 11)}},
		{3, [][]api.Cell{run(1, 1), run(1, 2)}},
		{3, [][]api.Cell{run(1, 1), run(1, 2), run(1, 20), run(21, 40)}},
		{16, slices.Repeat([][]api.Cell{run(1, 1)}, 15)},
	} {
		d := laid(t, 1000, c.lists...)
		e := open(t, d, 400, c.tier)
		must(t, e.Apply([]api.Cell{dead(50, 1, 1)}))
		must(t, d.Arm(1, 0))
		disk, told := all(d), view(e)
		wantCompact(t, e, math.MaxInt, 0, false, api.OK)
		want(t, "the disk", all(d), disk)
		want(t, "what is told", view(e), told)
	}
}

// P14.4: its operations, what is left of files, and what is told behind it: a tier of 2, of 16, and others.
func TestCompact(t *testing.T) {
	for _, tables := range []int{2, 3, 15, 16, 30} {
		for _, tier := range []int{2, 3, 15, 16} {
			if tables < tier {
				continue
			}
			d := thirty(t, tables)
			e := open(t, d, 400, tier)
			must(t, e.Apply(run(100, 101)))
			log := read(d, "log-1")
			cells, ops := e.All(), d.Ops()
			wantCompact(t, e, 0, 0, true, api.OK)
			// The table 3, the manifest 4, and the tables that go.
			want(t, "Ops", d.Ops()-ops, 7+tables)
			want(t, "Dirty", d.Dirty(), 0)
			wantCells(t, "All behind Compact", e.All(), cells)
			wantTold(t, e, run(100, 101), []int{tables + 1}, run(1, tables))
			wantManifest(t, d, manifestOf(tables+2, 1, tables+1))
			wantList(t, d, "log-1", "manifest", manifest.File(tables+1))
			wantFile(t, d, manifest.File(tables+1), tableOf(t, run(1, tables)))
			wantFile(t, d, "log-1", log)
			wantCompact(t, e, 0, 0, false, api.OK)
			wantTold(t, open(t, d, 400, tier), run(100, 101), []int{tables + 1}, run(1, tables))
		}
	}
}

// P14.4: which tables are chosen hangs on how many cells they have; the others stay ahead, in their order.
func TestCompactOfSome(t *testing.T) {
	small, great := []int{1, 2, 4, 6}, []int{3, 5}
	lists := [][]api.Cell{run(1, 5), run(6, 10), run(11, 60), run(61, 66), run(67, 130), run(131, 136)}
	d := laid(t, 1000, lists...)
	e := open(t, d, 400, 2)
	wantCompact(t, e, 0, 0, true, api.OK)
	merged := slices.Concat(run(1, 10), run(61, 66), run(131, 136))
	wantTold(t, e, nil, append(great, 7), lists[2], lists[4], merged)
	for _, n := range small {
		want(t, "a file that is chosen", slices.Contains(d.List(), manifest.File(n)), false)
	}
	wantList(t, d, "log-1", "manifest", "tab-3", "tab-5", "tab-7")
	wantTold(t, open(t, d, 400, 2), nil, []int{3, 5, 7}, lists[2], lists[4], merged)
	wantCompact(t, e, 0, 0, true, api.OK)
	wantTold(t, e, nil, []int{7, 8}, merged, slices.Concat(run(11, 60), run(67, 130)))
}

// P14.4: tables that stand in another order than their numbers; their files go in the manifest's order.
func TestCompactInTheManifestsOrder(t *testing.T) {
	d := laid(t, 1000, run(1, 2), run(3, 30), run(31, 32), run(33, 34))
	must(t, manifest.Store(d, manifestOf(9, 1, 4, 2, 1, 3)))
	e := open(t, d, 400, 3)
	must(t, d.Arm(8+1, 0))
	wantCompact(t, e, 0, 0, false, api.ErrPower)
	d.Start()
	// The first one of the chosen tables was removed ahead of the failure, and no other.
	wantList(t, d, "log-1", "manifest", "tab-1", "tab-2", "tab-3", "tab-9")
	wantTold(t, open(t, d, 400, 3), nil, []int{2, 9}, run(3, 30), slices.Concat(run(1, 2), run(31, 34)))
}

// P14.4, P14.7: of each key the greatest version, wherever it stands.
func TestCompactJoins(t *testing.T) {
	lists := [][]api.Cell{
		{live(1, 1), live(2, 9), live(3, 5), dead(4, 5, 1)},
		{live(1, 2), live(2, 8), dead(3, 5, 1), live(4, 5)},
		{live(1, 3), live(2, 7), live(3, 4), live(4, 6)},
	}
	for _, places := range [][]int{{0, 1, 2}, {2, 1, 0}, {1, 2, 0}} {
		d := laid(t, 1000, lists[places[0]], lists[places[1]], lists[places[2]])
		e := open(t, d, 400, 3)
		wantCompact(t, e, 0, 9, true, api.OK)
		wantTold(t, e, nil, []int{4}, []api.Cell{live(1, 3), live(2, 9), dead(3, 5, 1), live(4, 6)})
	}
}

// P14.4: all that is chosen goes: there is no new table, its number is used up nevertheless.
func TestCompactOfWhatGoes(t *testing.T) {
	d := laid(t, 1000, run(1, 3), []api.Cell{dead(1, 2, 5), dead(2, 2, 6), dead(3, 1, 7)})
	e := open(t, d, 400, 2)
	ops := d.Ops()
	wantCompact(t, e, 17, 10, true, api.OK)
	want(t, "Ops", d.Ops()-ops, 6)
	wantTold(t, e, nil, nil)
	wantManifest(t, d, manifestOf(4, 1))
	wantList(t, d, "log-1", "manifest")
	wantCompact(t, e, 17, 10, false, api.OK)
	must(t, e.Apply(run(9, 9)))
	must(t, e.Flush())
	wantTold(t, e, nil, []int{4}, run(9, 9))
	wantTold(t, open(t, d, 400, 2), nil, []int{4}, run(9, 9))
}

// P14.4: the same beside tables that stay.
func TestCompactOfWhatGoesBesideOthers(t *testing.T) {
	d := laid(t, 1000, run(50, 99), []api.Cell{dead(1, 2, 5)}, []api.Cell{dead(1, 3, 5), dead(2, 2, 5)})
	e := open(t, d, 400, 2)
	must(t, e.Apply(run(100, 100)))
	wantCompact(t, e, 5, 0, true, api.OK)
	wantTold(t, e, run(100, 100), []int{1}, run(50, 99))
	wantManifest(t, d, manifestOf(5, 1, 1))
	wantList(t, d, "log-1", "manifest", "tab-1")
	wantTold(t, open(t, d, 400, 2), run(100, 100), []int{1}, run(50, 99))
}

// P14.4: whether a deletion is old hangs on now and grace.
func TestCompactWithGrace(t *testing.T) {
	for _, c := range []struct {
		now, grace, local int
		goes              bool
	}{
		{15, 10, 5, true}, {14, 10, 5, false}, {16, 10, 5, true}, {5, 0, 5, true}, {4, 0, 5, false},
		{5, -1, 5, true}, {4, -3, 5, false}, {5, math.MinInt, 5, true}, {0, 0, 0, true}, {0, 1, 0, false},
		{math.MaxInt, math.MaxInt, 0, true}, {math.MaxInt, math.MaxInt, 1, false}, {math.MaxInt, math.MaxInt, math.MinInt, true},
		{-1, math.MaxInt, math.MinInt, true}, {-2, math.MaxInt, math.MinInt, false}, {math.MinInt, 0, math.MaxInt, false},
	} {
		d := laid(t, 1000, []api.Cell{dead(1, 3, c.local)}, run(2, 2))
		e := open(t, d, 400, 2)
		wantCompact(t, e, c.now, c.grace, true, api.OK)
		if c.goes {
			wantTold(t, e, nil, []int{3}, run(2, 2))
		} else {
			wantTold(t, e, nil, []int{3}, []api.Cell{dead(1, 3, c.local), live(2, 1)})
		}
	}
}

// P14.4, P14.7: a deletion stays whose key a table that was not chosen has, or memory; then what it hides stays hidden.
func TestCompactKeepsWhatHides(t *testing.T) {
	great := run(1, 50)
	gone := []api.Cell{dead(7, 2, 0), dead(60, 2, 0), dead(70, 2, 0)}
	d := laid(t, 1000, great, gone, run(80, 80))
	e := open(t, d, 400, 2)
	must(t, e.Apply(run(60, 60)))
	wantCompact(t, e, 1000, 0, true, api.OK)
	merged := []api.Cell{dead(7, 2, 0), dead(60, 2, 0), live(80, 1)}
	wantTold(t, e, run(60, 60), []int{1, 4}, great, merged)
	wantTold(t, open(t, d, 400, 2), run(60, 60), []int{1, 4}, great, merged)
	// Memory's own cell of that key is dead and old, too: it counts for all that.
	e = open(t, d, 400, 2)
	must(t, e.Apply([]api.Cell{dead(60, 3, 0)}))
	must(t, e.Apply([]api.Cell{dead(7, 1, 0)}))
	must(t, e.Flush())
	wantCompact(t, e, 1000, 0, true, api.OK)
	wantTold(t, e, nil, []int{1, 6}, great, []api.Cell{dead(7, 2, 0), live(80, 1)})
}

// P14.4: what the others' filters say counts, not what they have.
func TestCompactAsksFilters(t *testing.T) {
	great := run(1, 50)
	filter, errno := table.Open(tableOf(t, great))
	must(t, errno)
	row := 1000
	for !filter.May(live(row, 1).Key) {
		row++
	}
	if _, there := filter.Get(live(row, 1).Key); there {
		t.Fatal("no row that the filter alone has")
	}
	d := laid(t, 1000, great, []api.Cell{dead(row, 2, 0)}, run(80, 80))
	e := open(t, d, 400, 2)
	wantCompact(t, e, 1000, 0, true, api.OK)
	wantTold(t, e, nil, []int{1, 4}, great, []api.Cell{live(80, 1), dead(row, 2, 0)})
}

// compactRooms: what a Compact of tables 1 and 2 into cells leaves, with each number of free sectors; m is the manifest behind it.
func compactRooms(t *testing.T, cells []api.Cell, m manifest.Manifest) []room {
	bytes, errno := manifest.Bytes(m)
	must(t, errno)
	stored := disk.Sectors(len(bytes))
	if len(cells) == 0 {
		full := []room{{0, api.ErrFull, 0, nil, nil}}
		for free := 1; free <= stored; free++ {
			full = append(full, room{free, api.ErrFull, 1, []string{"manifest.new"}, nil})
		}
		return append(full, room{1 + stored, api.OK, 6, nil, nil})
	}
	b := tableOf(t, cells)
	table := disk.Sectors(len(b))
	full := []room{{0, api.ErrFull, 0, nil, nil}}
	for free := 1; free < 1+table; free++ {
		full = append(full, room{free, api.ErrFull, 1, []string{"tab-3"}, nil})
	}
	full = append(full, room{1 + table, api.ErrFull, 3, []string{"tab-3"}, b})
	for free := 2 + table; free < 2+table+stored; free++ {
		full = append(full, room{free, api.ErrFull, 4, []string{"manifest.new", "tab-3"}, b})
	}
	return append(full, room{2 + table + stored, api.OK, 9, nil, b})
}

// P14.4: too little room for each step: nothing has changed but files.
func TestCompactWithLittleRoom(t *testing.T) {
	for _, c := range []struct{ first, second, merged []api.Cell }{
		{run(1, 5), run(3, 9), run(1, 9)},
		{run(1, 1), []api.Cell{dead(1, 1, 1)}, nil},
	} {
		m := manifestOf(4, 1)
		if c.merged != nil {
			m.Tables = []int{3}
		}
		for _, r := range compactRooms(t, c.merged, m) {
			d := laid(t, 1000, c.first, c.second)
			e := open(t, d, 400, 2)
			must(t, e.Apply(run(100, 100)))
			fill(t, d, 1000, r.free)
			before, ops := d.List(), d.Ops()
			wantCompact(t, e, 9, 0, r.errno == api.OK, r.errno)
			want(t, fmt.Sprintf("Ops with %d free sectors", r.free), d.Ops()-ops, r.ops)
			if r.errno != api.OK {
				wantTold(t, e, run(100, 100), []int{1, 2}, c.first, c.second)
				wantList(t, d, slices.Sorted(slices.Values(append(before, r.left...)))...)
				if slices.Contains(r.left, "tab-3") {
					wantFile(t, d, "tab-3", r.table)
				}
				must(t, d.Remove("rest"))
				wantTold(t, open(t, d, 400, 2), run(100, 100), []int{1, 2}, c.first, c.second)
				wantCompact(t, e, 9, 0, true, api.OK)
			}
			if c.merged == nil {
				wantTold(t, e, run(100, 100), nil)
			} else {
				wantTold(t, e, run(100, 100), []int{3}, c.merged)
			}
			wantManifest(t, d, m)
		}
	}
}

// P14.4: as many files as there may be, or a few less.
func TestCompactWithManyFiles(t *testing.T) {
	for spare, left := range [][]string{nil, {"tab-3"}, {}} {
		d := laid(t, 1000, run(1, 1), run(2, 2))
		e := open(t, d, 400, 2)
		crowd(t, d, api.MaxFiles-spare)
		before := d.List()
		if spare == 2 {
			wantCompact(t, e, 0, 0, true, api.OK)
			wantTold(t, e, nil, []int{3}, run(1, 2))
			continue
		}
		wantCompact(t, e, 0, 0, false, api.ErrFull)
		wantList(t, d, slices.Sorted(slices.Values(append(before, left...)))...)
		wantTold(t, e, nil, []int{1, 2}, run(1, 1), run(2, 2))
		for i := range 4 {
			must(t, d.Remove(fmt.Sprint("x", i)))
		}
		wantTold(t, open(t, d, 400, 2), nil, []int{1, 2}, run(1, 1), run(2, 2))
		wantCompact(t, e, 0, 0, true, api.OK)
		wantTold(t, e, nil, []int{3}, run(1, 2))
	}
}

// P14.4: more than a table may have, by its cells or by its keys: nothing is written, and nothing has changed.
func TestCompactOfTooMuch(t *testing.T) {
	long := run(1, 16000)
	for i := range long {
		long[i].Key.Part = strings.Repeat("\x00", api.MaxText)
	}
	for _, cells := range [][]api.Cell{run(1, 20001), long} {
		half := len(cells) / 2
		d := laid(t, 1<<20, cells[:half], cells[half:])
		e := open(t, d, 400, 2)
		before := all(d)
		wantCompact(t, e, 0, 0, false, api.ErrFull)
		want(t, "the disk", all(d), before)
		wantCells(t, "All", e.All(), cells)
		wantNumbers(t, "Tables", e.Tables(), 1, 2)
		must(t, e.Apply(run(1, 1)))
	}
	d := laid(t, 1<<20, run(1, 12000), run(8001, 20000))
	e := open(t, d, 400, 2)
	wantCompact(t, e, 0, 0, true, api.OK)
	wantNumbers(t, "Sizes", e.Sizes(), 20000)
	wantCells(t, "All", e.All(), run(1, 20000))
}

// P14.4: the last number of a table.
func TestCompactAtTheLastNumbers(t *testing.T) {
	d := laid(t, 1000, run(1, 1), run(2, 2))
	must(t, manifest.Store(d, manifestOf(top-1, 1, 1, 2)))
	e := open(t, d, 400, 2)
	wantCompact(t, e, 0, 0, true, api.OK)
	wantTold(t, e, nil, []int{top - 1}, run(1, 2))
	wantManifest(t, d, manifestOf(top, 1, top-1))

	for _, second := range [][]api.Cell{run(2, 2), {dead(1, 5, 1)}} {
		d = laid(t, 1000, run(1, 1), second)
		must(t, manifest.Store(d, manifestOf(top, 1, 1, 2)))
		e = open(t, d, 400, 2)
		wantCompact(t, e, 9, 0, false, api.ErrArg)
		wantTold(t, e, nil, []int{1, 2}, run(1, 1), second)
		wantManifest(t, d, manifestOf(top, 1, 1, 2))
		wantTold(t, open(t, d, 400, 2), nil, []int{1, 2}, run(1, 1), second)
	}
}

// P14.4: a chosen table's file that somebody took away is not told, and the others go for all that.
func TestCompactWithoutFiles(t *testing.T) {
	for n := 1; n <= 3; n++ {
		d := laid(t, 1000, run(1, 1), run(2, 2), run(3, 3))
		e := open(t, d, 400, 2)
		must(t, d.Remove(manifest.File(n)))
		wantCompact(t, e, 0, 0, true, api.OK)
		wantTold(t, e, nil, []int{4}, run(1, 3))
		wantList(t, d, "log-1", "manifest", "tab-4")
	}
}

// P14.4: what a Compact that failed left is no hindrance.
func TestCompactOverFiles(t *testing.T) {
	d := laid(t, 1000, run(1, 1), run(2, 2))
	lay(t, d, "tab-3", make([]byte, 500))
	lay(t, d, "manifest.new", make([]byte, 50))
	e := open(t, d, 400, 2)
	wantCompact(t, e, 0, 0, true, api.OK)
	wantList(t, d, "log-1", "manifest", "tab-3")
	wantTold(t, open(t, d, 400, 2), nil, []int{3}, run(1, 2))
}

// P14.4, P14.7: memory is not compacted, and what is flushed later is a table behind the others.
func TestCompactBesideMemory(t *testing.T) {
	d := disk.New(1000)
	e := open(t, d, 2, 3)
	var put []api.Cell
	for n := 1; n <= 9; n++ {
		l := []api.Cell{live(n%4, n), dead(n, n, 0)}
		put = append(put, l...)
		must(t, e.Apply(l))
		_, errno := e.Compact(0, 1)
		must(t, errno)
		wantCells(t, "All", e.All(), cell.Norm(put))
	}
	_, errno := e.Compact(1, 1)
	must(t, errno)
	for _, c := range cell.Norm(put) {
		got, there := cell.Find(e.All(), c.Key)
		if there && got != c.Version || !there && !purge.Old(c.Version, 1, 1) {
			t.Errorf("%v: %v, %v", c, got, there)
		}
	}
}
