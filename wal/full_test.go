package wal_test

import (
	"fmt"
	"testing"

	"skerry/api"
	"skerry/disk"
	"skerry/wal"
)

// P7.2: no sector, or no file more, for the new segment.
func TestOpenOfFullDisk(t *testing.T) {
	wantNoLog(t, disk.New(0), 1, api.ErrFull)
	wantLog(t, open(t, disk.New(1), 1), 1, 1)

	d := disk.New(4)
	lay(t, d, "log-1", segment(t, nil, cellsOf(1, 1)))
	must(t, d.Create("x"))
	want(t, "Used", d.Used(), 4)
	before := all(d)
	wantNoLog(t, d, 1, api.ErrFull)
	wantNoLog(t, d, 2, api.ErrFull)
	want(t, "the disk", all(d), before)
	must(t, d.Remove("x"))
	wantLog(t, open(t, d, 1, cellsOf(1, 1)), 2, 1, 2)
}

func crowd(t *testing.T, d *disk.Disk, files int) {
	t.Helper()
	for i := range files {
		must(t, d.Create(fmt.Sprint("x", i)))
	}
}

// P7.2: as many files as may be; a torn segment then has no room to be mended.
func TestOpenOfManyFiles(t *testing.T) {
	for _, torn := range [][]byte{nil, {1}} {
		d := disk.New(1000)
		lay(t, d, "log-1", segment(t, torn, cellsOf(1, 1)))
		crowd(t, d, api.MaxFiles-1)
		before := all(d)
		wantNoLog(t, d, 1, api.ErrFull)
		want(t, "the disk", all(d), before)
		must(t, d.Remove("x0"))
		wantLog(t, open(t, d, 1, cellsOf(1, 1)), 2, 1, 2)
		wantFile(t, d, "log-1", segment(t, nil, cellsOf(1, 1)))
	}
}

// P7.2: whatever room there is for the mending, a torn segment is as it was till it is mended, and told when there is enough.
func TestMendingOfFullDisk(t *testing.T) {
	records := [][]api.Cell{cellsOf(1, 2), cellsOf(3, 5)}
	torn := segment(t, []byte{1, 2, 3}, records...)
	sound := len(torn) - 3
	for free := range 20 {
		d := disk.New(1 + disk.Sectors(len(torn)) + free)
		lay(t, d, "log-1", torn)
		_, _, e := wal.Open(d, 1)
		if free >= 1+disk.Sectors(sound) {
			want(t, "Open with room", e, api.OK)
			wantFile(t, d, "log-1", torn[:sound])
			wantList(t, d, "log-1", "log-2")
			continue
		}
		want(t, "Open without room", e, api.ErrFull)
		wantFile(t, d, "log-1", torn)
		if _, ok := wal.Number(d.List()[len(d.List())-1]); ok && len(d.List()) > 1 {
			t.Errorf("a segment more: %v", d.List())
		}
		wantNoLog(t, d, 1, api.ErrFull)
		wantFile(t, d, "log-1", torn)
	}
	if disk.Sectors(sound) > 15 {
		t.Error("never enough room")
	}
}

// P7.2: a torn segment without records needs one sector for its mending.
func TestMendingWithoutRecordsOfFullDisk(t *testing.T) {
	d := disk.New(4)
	lay(t, d, "log-5", []byte{1})
	lay(t, d, "x", []byte{1})
	before := all(d)
	wantNoLog(t, d, 1, api.ErrFull)
	want(t, "the disk", all(d), before)
	must(t, d.Create("x"))
	wantLog(t, open(t, d, 1), 6, 5, 6)
	wantFile(t, d, "log-5", nil)
}

// P7.3: a record for which there is no room is not there, and the log goes on.
func TestAppendToFullDisk(t *testing.T) {
	small, great := cellsOf(1, 1), cellsOf(2, 50)
	d := disk.New(1 + disk.Sectors(2*len(recordOf(t, small))))
	l := open(t, d, 1)
	must(t, l.Append(small))
	before, ops := all(d), d.Ops()
	want(t, "Append", l.Append(great), api.ErrFull)
	want(t, "the disk", all(d), before)
	want(t, "Ops", d.Ops(), ops)
	must(t, l.Append(small))
	wantFile(t, d, "log-1", segment(t, nil, small, small))
	want(t, "Append", l.Append(small), api.ErrFull)
	wantFile(t, d, "log-1", segment(t, nil, small, small))
	wantLog(t, l, 1, 1)
}

// P7.3: without a sector for a new segment the log goes on in its own.
func TestRollOfFullDisk(t *testing.T) {
	d := disk.New(2 + 2*disk.Sectors(len(recordOf(t, cellsOf(1, 1)))))
	must(t, d.Create("x"))
	l := open(t, d, 1)
	must(t, l.Append(cellsOf(1, 1)))
	must(t, d.Append("x", make([]byte, 16*disk.Sectors(len(recordOf(t, cellsOf(1, 1)))))))
	before, ops := all(d), d.Ops()
	wantRoll(t, l, 0, api.ErrFull)
	want(t, "the disk", all(d), before)
	want(t, "Ops", d.Ops(), ops)
	wantLog(t, l, 1, 1)
	want(t, "Retire", l.Retire(9), api.OK)
	must(t, d.Remove("x"))
	must(t, l.Append(cellsOf(2, 1)))
	wantFile(t, d, "log-1", segment(t, nil, cellsOf(1, 1), cellsOf(2, 1)))
	wantRoll(t, l, 2, api.OK)
}

// P7.3: as many segments as there may be files; Retire makes room.
func TestRollOfManyFiles(t *testing.T) {
	d := disk.New(1000)
	l := open(t, d, 1)
	for n := 2; n <= api.MaxFiles; n++ {
		wantRoll(t, l, n, api.OK)
	}
	wantRoll(t, l, 0, api.ErrFull)
	want(t, "Last", l.Last(), api.MaxFiles)
	must(t, l.Append(cellsOf(1, 1)))
	must(t, l.Retire(2))
	wantRoll(t, l, api.MaxFiles+1, api.OK)
	must(t, l.Append(cellsOf(2, 1)))
	must(t, l.Retire(api.MaxFiles))
	open(t, d, 1, cellsOf(1, 1), cellsOf(2, 1))
}
