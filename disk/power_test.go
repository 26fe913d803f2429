package disk_test

import (
	"fmt"
	"math"
	"testing"

	"skerry/api"
	"skerry/disk"
)

// example: what the chapter's example has ahead of its crash.
func example(t *testing.T) *disk.Disk {
	t.Helper()
	d := disk.New(10)
	must(t, d.Create("a"))
	must(t, d.Append("a", letters('a', 20)))
	must(t, d.Sync("a"))
	must(t, d.Append("a", letters('k', 30)))
	return d
}

// The example of the chapter.
func TestExample(t *testing.T) {
	d := example(t)
	wantCounts(t, d, 5, 3, 4)
	d.Crash(1)
	d.Start()
	wantRead(t, d, "a", append(letters('a', 20), letters('k', 30)...)[:32])
	wantCounts(t, d, 3, 0, 4)
}

// P3.4: how much is kept of three dirty sectors.
func TestCrashKeep(t *testing.T) {
	for _, c := range [][2]int{
		{math.MinInt, 20}, {-1, 20}, {0, 20}, {1, 32}, {2, 48}, {3, 50}, {4, 50}, {math.MaxInt, 50},
	} {
		d := example(t)
		d.Crash(c[0])
		wantOff(t, d, 4)
		d.Start()
		want(t, "On behind Start", d.On(), true)
		wantRead(t, d, "a", append(letters('a', 20), letters('k', 30)...)[:c[1]])
		wantCounts(t, d, 1+disk.Sectors(c[1]), 0, 4)
	}
}

// P3.4: a crash where nothing is dirty takes nothing.
func TestCrashWithoutDirty(t *testing.T) {
	for _, keep := range []int{math.MinInt, -1, 0, 1, math.MaxInt} {
		d := disk.New(10)
		d.Crash(keep)
		want(t, "On", d.On(), false)
		d.Start()
		must(t, d.Create("a"))
		must(t, d.Append("a", letters('a', 20)))
		must(t, d.Sync("a"))
		d.Crash(keep)
		want(t, "On", d.On(), false)
		d.Start()
		wantRead(t, d, "a", letters('a', 20))
		wantCounts(t, d, 3, 0, 3)
	}
}

// P3.4: what a crash left is written: the next one takes nothing of it, and what comes then begins behind it.
func TestCrashTwice(t *testing.T) {
	d := example(t)
	d.Crash(1)
	d.Start()
	d.Crash(0)
	d.Start()
	kept := append(letters('a', 20), letters('k', 30)...)[:32]
	wantRead(t, d, "a", kept)
	must(t, d.Append("a", letters('p', 5)))
	want(t, "Dirty", d.Dirty(), 1)
	d.Crash(0)
	d.Start()
	wantRead(t, d, "a", kept)
	must(t, d.Append("a", letters('q', 5)))
	d.Crash(1)
	d.Start()
	wantRead(t, d, "a", append(kept, letters('q', 5)...))
	must(t, d.Append("a", letters('r', 5)))
	must(t, d.Append("a", letters('s', 5)))
	want(t, "Dirty of a sector that a crash wrote", d.Dirty(), 1)
	d.Crash(0)
	d.Start()
	wantRead(t, d, "a", append(kept, letters('q', 5)...))
}

// P3.4: a crash of what has no power changes nothing, whatever it would keep.
func TestCrashWithoutPower(t *testing.T) {
	for _, keep := range []int{-1, 0, 1, 9} {
		d := example(t)
		d.Crash(1)
		d.Crash(keep)
		wantOff(t, d, 4)
		d.Start()
		wantCounts(t, d, 3, 0, 4)
		wantRead(t, d, "a", append(letters('a', 20), letters('k', 30)...)[:32])
	}
}

// P3.4: the files themselves, and what became of their names, last without a Sync.
func TestCrashKeepsFiles(t *testing.T) {
	d := disk.New(20)
	for _, name := range []string{"a", "b", "c", "d"} {
		must(t, d.Create(name))
	}
	must(t, d.Append("a", letters('a', 20)))
	must(t, d.Rename("a", "z"))
	must(t, d.Remove("b"))
	must(t, d.Rename("c", "d"))
	d.Crash(0)
	wantOff(t, d, 8)
	d.Start()
	wantList(t, d, "d", "z")
	wantRead(t, d, "d", nil)
	wantRead(t, d, "z", nil)
	wantCounts(t, d, 2, 0, 8)
}

// several: three files, one of synced bytes alone, one with dirty ones behind them, one with none; by eight operations.
func several(t *testing.T) *disk.Disk {
	t.Helper()
	d := disk.New(20)
	must(t, d.Create("c"))
	must(t, d.Append("c", letters('a', 40)))
	must(t, d.Sync("c"))
	must(t, d.Create("a"))
	must(t, d.Append("a", letters('m', 20)))
	must(t, d.Sync("a"))
	must(t, d.Append("a", letters('p', 30)))
	must(t, d.Create("b"))
	wantList(t, d, "a", "b", "c")
	wantCounts(t, d, 10, 3, 8)
	return d
}

// wantSeveral: what there is of several, if one dirty sector was kept.
func wantSeveral(t *testing.T, d *disk.Disk, ops int) {
	t.Helper()
	want(t, "On behind Start", d.On(), true)
	wantList(t, d, "a", "b", "c")
	wantCounts(t, d, 8, 0, ops)
	wantRead(t, d, "a", append(letters('m', 20), letters('p', 30)...)[:32])
	wantRead(t, d, "b", nil)
	wantRead(t, d, "c", letters('a', 40))
}

// P3.1, P3.2, P3.3, R2: behind a crash a disk tells nothing of its files, synced or not; behind Start it tells all there is.
func TestNothingToldBehindCrash(t *testing.T) {
	d := several(t)
	d.Crash(1)
	wantOff(t, d, 8)
	d.Crash(0)
	wantOff(t, d, 8)
	want(t, "Sync without power", d.Sync("c"), api.ErrPower)
	wantOff(t, d, 8)
	d.Start()
	wantSeveral(t, d, 8)
	d.Crash(0)
	wantOff(t, d, 8)
	d.Start()
	wantSeveral(t, d, 8)
}

// P3.1, P3.2, P3.3, R2: the same behind each operation that fails, the disk being as full as it was or by an Append's bytes fuller.
func TestNothingToldBehindFailure(t *testing.T) {
	for what, operation := range map[string]func(d *disk.Disk) api.Errno{
		"Create":      func(d *disk.Disk) api.Errno { return d.Create("d") },
		"Create anew": func(d *disk.Disk) api.Errno { return d.Create("c") },
		"Append":      func(d *disk.Disk) api.Errno { return d.Append("b", letters('s', 50)) },
		"Sync":        func(d *disk.Disk) api.Errno { return d.Sync("a") },
		"Rename":      func(d *disk.Disk) api.Errno { return d.Rename("c", "b") },
		"Remove":      func(d *disk.Disk) api.Errno { return d.Remove("c") },
	} {
		d := several(t)
		must(t, d.Arm(2, 1))
		must(t, d.Sync("c"))
		wantCounts(t, d, 10, 3, 9)
		want(t, what+" that fails", operation(d), api.ErrPower)
		wantOff(t, d, 10)
		want(t, what+" without power", operation(d), api.ErrPower)
		wantOff(t, d, 10)
		d.Start()
		wantSeveral(t, d, 10)
	}
}

// P3.1, P3.3: a disk that is full while it has no power is full behind Start, too.
func TestFullBehindStart(t *testing.T) {
	d := disk.New(4)
	must(t, d.Create("a"))
	must(t, d.Append("a", letters('a', 48)))
	d.Crash(3)
	wantOff(t, d, 2)
	d.Start()
	wantCounts(t, d, 4, 0, 2)
	want(t, "Create on a full disk", d.Create("b"), api.ErrFull)
	want(t, "Append to a full disk", d.Append("a", letters('a', 1)), api.ErrFull)
	wantRead(t, d, "a", letters('a', 48))
}

// P3.2, P3.4: the line's order over two files; a sector that is dirty already keeps its place.
func TestCrashLine(t *testing.T) {
	for keep, sizes := range [][2]int{{4, 0}, {16, 0}, {16, 16}, {24, 16}, {24, 20}} {
		d := disk.New(50)
		must(t, d.Create("a"))
		must(t, d.Create("b"))
		must(t, d.Append("a", letters('a', 4)))
		must(t, d.Sync("a"))
		must(t, d.Append("a", letters('b', 4)))  // a's first sector
		must(t, d.Append("b", letters('m', 14))) // b's first
		must(t, d.Append("a", letters('c', 8)))  // the first place still
		must(t, d.Append("a", letters('d', 8)))  // a's second
		must(t, d.Append("b", letters('n', 6)))  // b's second
		want(t, "Dirty", d.Dirty(), 4)
		d.Crash(keep)
		d.Start()
		a, b := letters('a', 4), letters('m', 14)
		a = append(append(append(a, letters('b', 4)...), letters('c', 8)...), letters('d', 8)...)
		b = append(b, letters('n', 6)...)
		wantRead(t, d, "a", a[:sizes[0]])
		wantRead(t, d, "b", b[:sizes[1]])
	}
}

// P3.2, P3.4: what was synced and is dirty again is the last in the line.
func TestCrashLineBehindSync(t *testing.T) {
	for keep, sizes := range [][2]int{{5, 0}, {5, 7}, {9, 7}, {9, 7}} {
		d := disk.New(50)
		must(t, d.Create("a"))
		must(t, d.Create("b"))
		must(t, d.Append("a", letters('a', 5)))
		must(t, d.Append("b", letters('m', 7)))
		must(t, d.Sync("a"))
		must(t, d.Append("a", letters('f', 4)))
		d.Crash(keep)
		d.Start()
		wantRead(t, d, "a", letters('a', 9)[:sizes[0]])
		wantRead(t, d, "b", letters('m', 7)[:sizes[1]])
	}
}

// P3.4: Spoil turns a bit for good, as far as the byte is not lost.
func TestCrashBehindSpoil(t *testing.T) {
	d := example(t)
	must(t, d.Spoil("a", 5, 1))
	must(t, d.Spoil("a", 18, 2))
	must(t, d.Spoil("a", 25, 3))
	must(t, d.Spoil("a", 40, 4))
	d.Crash(1)
	d.Start()
	wanted := append(letters('a', 20), letters('k', 30)...)[:32]
	wanted[5] ^= 2
	wanted[18] ^= 4
	wanted[25] ^= 8
	wantRead(t, d, "a", wanted)
}

// fresh: a disk with a synced file a, a dirty one b, and nothing planned yet.
func fresh(t *testing.T) *disk.Disk {
	t.Helper()
	d := disk.New(100)
	must(t, d.Create("a"))
	must(t, d.Create("b"))
	must(t, d.Append("a", letters('a', 20)))
	must(t, d.Sync("a"))
	must(t, d.Append("b", letters('m', 40)))
	return d
}

// operations: the five, each by a name, as calls that have no error on a fresh disk.
func operations() map[string]func(d *disk.Disk) api.Errno {
	return map[string]func(d *disk.Disk) api.Errno{
		"Create":        func(d *disk.Disk) api.Errno { return d.Create("c") },
		"Create anew":   func(d *disk.Disk) api.Errno { return d.Create("a") },
		"Append":        func(d *disk.Disk) api.Errno { return d.Append("a", letters('p', 30)) },
		"Append of 0":   func(d *disk.Disk) api.Errno { return d.Append("a", nil) },
		"Sync":          func(d *disk.Disk) api.Errno { return d.Sync("b") },
		"Rename":        func(d *disk.Disk) api.Errno { return d.Rename("a", "c") },
		"Rename over":   func(d *disk.Disk) api.Errno { return d.Rename("a", "b") },
		"Rename itself": func(d *disk.Disk) api.Errno { return d.Rename("b", "b") },
		"Remove":        func(d *disk.Disk) api.Errno { return d.Remove("a") },
	}
}

// P3.4: the planned operation does nothing (an Append: lays its bytes down), then all is as behind a crash.
func TestArmEachOperation(t *testing.T) {
	for what, operation := range operations() {
		for keep := -1; keep <= 7; keep++ {
			d := fresh(t)
			want(t, "Arm", d.Arm(1, keep), api.OK)
			want(t, "On behind Arm", d.On(), true)
			want(t, what+" that fails", operation(d), api.ErrPower)
			wantOff(t, d, 6)

			wanted := fresh(t)
			if what == "Append" {
				must(t, operation(wanted))
			} else {
				must(t, wanted.Sync("a")) // changes nothing, but is one operation, too
			}
			wanted.Crash(keep)
			d.Start()
			wanted.Start()
			wantList(t, d, "a", "b")
			wantCounts(t, d, wanted.Used(), 0, 6)
			want(t, fmt.Sprintf("the disk behind %s, keep %d", what, keep), look(d), look(wanted))
			want(t, what+" behind Start", operation(d), api.OK)
		}
	}
}

// P3.4: how an Append that fails is cut, behind three sectors of another file.
func TestArmAppend(t *testing.T) {
	for keep, sizes := range [][2]int{{0, 20}, {16, 20}, {32, 20}, {40, 20}, {40, 32}, {40, 48}, {40, 50}, {40, 50}} {
		d := fresh(t)
		must(t, d.Arm(1, keep))
		want(t, "Append that fails", d.Append("a", letters('p', 30)), api.ErrPower)
		d.Start()
		wantRead(t, d, "b", letters('m', 40)[:sizes[0]])
		wantRead(t, d, "a", append(letters('a', 20), letters('p', 30)...)[:sizes[1]])
	}
}

// P3.4: the n-th operation fails, and none ahead of it.
func TestArmCounts(t *testing.T) {
	for n := 1; n <= 6; n++ {
		d := fresh(t)
		must(t, d.Arm(n, 0))
		for i := 1; i < n; i++ {
			want(t, "an operation ahead of the planned one", d.Append("b", letters('x', 1)), api.OK)
		}
		want(t, fmt.Sprintf("operation %d", n), d.Sync("b"), api.ErrPower)
		want(t, "Ops", d.Ops(), 5+n)
		d.Start()
		wantRead(t, d, "b", nil)
	}
}

// P3.4: what is no operation is not counted.
func TestArmCountsOperationsAlone(t *testing.T) {
	d := fresh(t)
	must(t, d.Arm(2, 0))
	want(t, "Create of a wrong name", d.Create(""), api.ErrName)
	want(t, "Append to none", d.Append("x", nil), api.ErrNone)
	want(t, "Append of too much", d.Append("a", make([]byte, 2000)), api.ErrFull)
	want(t, "Sync of none", d.Sync("x"), api.ErrNone)
	want(t, "Rename of none", d.Rename("x", "y"), api.ErrNone)
	want(t, "Remove of none", d.Remove("x"), api.ErrNone)
	want(t, "Spoil", d.Spoil("a", 0, 0), api.OK)
	want(t, "Spoil again", d.Spoil("a", 0, 0), api.OK)
	want(t, "Arm below 0", d.Arm(-1, 0), api.ErrArg)
	wantRead(t, d, "a", letters('a', 20))
	wantList(t, d, "a", "b")
	want(t, "the first operation", d.Rename("a", "a"), api.OK)
	want(t, "a wrong call ahead of the planned one", d.Remove("x"), api.ErrNone)
	want(t, "On", d.On(), true)
	want(t, "the second operation", d.Rename("a", "a"), api.ErrPower)
}

// P3.4: Arm anew takes the place of what was planned, 0 of all of it, a wrong number of nothing.
func TestArmAnew(t *testing.T) {
	d := fresh(t)
	must(t, d.Arm(1, 0))
	must(t, d.Arm(0, 0))
	for range 5 {
		want(t, "Sync with nothing planned", d.Sync("a"), api.OK)
	}
	must(t, d.Arm(1, 0))
	must(t, d.Arm(3, 1))
	want(t, "the first", d.Sync("a"), api.OK)
	want(t, "Arm below 0", d.Arm(-1, 9), api.ErrArg)
	want(t, "Arm at the least int", d.Arm(math.MinInt, 9), api.ErrArg)
	want(t, "the second", d.Sync("a"), api.OK)
	want(t, "the third", d.Sync("a"), api.ErrPower)
	d.Start()
	wantRead(t, d, "b", letters('m', 16))
	must(t, d.Arm(math.MaxInt, 0))
	for range 5 {
		want(t, "Sync with the last of all planned", d.Sync("a"), api.OK)
	}
}

// P3.4: a plan does not outlast Start, be it that the power failed, was cut, or was on all the time.
func TestStartForgetsThePlan(t *testing.T) {
	for what, ahead := range map[string]func(d *disk.Disk){
		"the failure": func(d *disk.Disk) { d.Sync("a"); d.Sync("a") },
		"a crash":     func(d *disk.Disk) { d.Crash(0) },
		"nothing":     func(d *disk.Disk) {},
	} {
		d := fresh(t)
		must(t, d.Arm(2, 0))
		ahead(d)
		d.Start()
		want(t, "On", d.On(), true)
		for range 5 {
			want(t, "Sync behind "+what+" and Start", d.Sync("a"), api.OK)
		}
	}
}

// P3.4: Start of a disk that has power changes none of its files.
func TestStartWithPower(t *testing.T) {
	d := fresh(t)
	before := look(d)
	d.Start()
	want(t, "the disk", look(d), before)
	d.Crash(2)
	d.Start()
	d.Start()
	wantRead(t, d, "b", letters('m', 32))
}
