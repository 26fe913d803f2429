package disk_test

import (
	"bytes"
	"fmt"
	"math"
	"slices"
	"strings"
	"testing"

	"skerry/api"
	"skerry/disk"
)

const mostRoom = 1 << 30

// letters: n bytes of which those that stand beside each other are unlike, so that a shift is seen.
func letters(first byte, n int) []byte {
	b := make([]byte, n)
	for i := range b {
		b[i] = first + byte(i%23)
	}
	return b
}

func want(t *testing.T, what string, got, wanted any) {
	t.Helper()
	if got != wanted {
		t.Errorf("%s: %v, want %v", what, got, wanted)
	}
}

// must: what a test builds on, so that it ends where that fails.
func must(t *testing.T, e api.Errno) {
	t.Helper()
	if e != api.OK {
		t.Fatalf("an operation answered %v", e)
	}
}

func wantRead(t *testing.T, d *disk.Disk, name string, wanted []byte) {
	t.Helper()
	if got, e := d.Read(name); !bytes.Equal(got, wanted) || e != api.OK {
		t.Errorf("Read(%s): %q, %v; want %q", name, got, e, wanted)
	}
}

func wantNone(t *testing.T, d *disk.Disk, name string) {
	t.Helper()
	if got, e := d.Read(name); len(got) != 0 || e != api.ErrNone {
		t.Errorf("Read(%s): %q, %v; want none", name, got, e)
	}
}

func wantCounts(t *testing.T, d *disk.Disk, used, dirty, ops int) {
	t.Helper()
	if d.Used() != used || d.Dirty() != dirty || d.Ops() != ops {
		t.Errorf("Used %d, Dirty %d, Ops %d; want %d, %d, %d", d.Used(), d.Dirty(), d.Ops(), used, dirty, ops)
	}
}

func wantList(t *testing.T, d *disk.Disk, names ...string) {
	t.Helper()
	if got := d.List(); !slices.Equal(got, names) {
		t.Errorf("List: %q, want %q", got, names)
	}
}

// wantOff: without power a disk tells nothing of its files, but still how many operations there were.
func wantOff(t *testing.T, d *disk.Disk, ops int) {
	t.Helper()
	want(t, "On without power", d.On(), false)
	wantList(t, d)
	wantCounts(t, d, 0, 0, ops)
}

// look: all that a disk tells of itself while it has power.
func look(d *disk.Disk) string {
	var s strings.Builder
	fmt.Fprint(&s, d.On(), d.Used(), d.Dirty(), d.Ops())
	for _, name := range d.List() {
		b, e := d.Read(name)
		fmt.Fprintf(&s, " %s %x %v", name, b, e)
	}
	return s.String()
}

// P3.1
func TestNew(t *testing.T) {
	for _, room := range []int{0, 1, 2, 16, 1000, mostRoom - 1, mostRoom} {
		d := disk.New(room)
		if d == nil {
			t.Errorf("New(%d): nil", room)
			continue
		}
		want(t, "On of a new one", d.On(), true)
		wantCounts(t, d, 0, 0, 0)
		wantList(t, d)
	}
	for _, room := range []int{-1, -2, mostRoom + 1, 1 << 31, math.MaxInt, math.MinInt} {
		if disk.New(room) != nil {
			t.Errorf("New(%d): a disk, want nil", room)
		}
	}
}

// P3.1
func TestGood(t *testing.T) {
	for _, name := range []string{
		"a", "z", "m", "ab", "az", "a0", "a9", "a.", "a-", "log-1", "manifest.new", "a..--..",
		"abcdefghijklmnopqrstuvwxyz0123456789.-", strings.Repeat("a", 40), "z" + strings.Repeat("-", 39),
	} {
		want(t, "Good("+name+")", disk.Good(name), true)
	}
	for _, name := range []string{
		"", "0", "9a", ".", ".a", "-", "-a", "A", "aA", "Ab", "aZ", "a b", " a", "a ", "a_", "a/b", "a:", "a,", "a`", "a{", "a@", "a[",
		"`", "{", "a\x00", "\x00", "aé", "é", "a\xff", "a\x80", "a\n", strings.Repeat("a", 41), strings.Repeat("a", 39) + "é", strings.Repeat("a", 39) + "_", strings.Repeat("a", 1000),
	} {
		want(t, fmt.Sprintf("Good(%q)", name), disk.Good(name), false)
	}
}

// P3.1: each byte, at the first place, behind it, and as the last of 40.
func TestGoodBytes(t *testing.T) {
	const first = "abcdefghijklmnopqrstuvwxyz"
	const all = first + "0123456789.-"
	for i := range 256 {
		c := string([]byte{byte(i)})
		want(t, fmt.Sprintf("Good(%q)", c), disk.Good(c), strings.Contains(first, c))
		want(t, fmt.Sprintf("Good(%q)", c+"a"), disk.Good(c+"a"), strings.Contains(first, c))
		want(t, fmt.Sprintf("Good(%q)", "a"+c+"a"), disk.Good("a"+c+"a"), strings.Contains(all, c))
		long := strings.Repeat("b", 39) + c
		want(t, fmt.Sprintf("Good(%q)", long), disk.Good(long), strings.Contains(all, c))
	}
}

// P3.1
func TestSectors(t *testing.T) {
	for _, c := range [][2]int{
		{math.MinInt, 0}, {-17, 0}, {-16, 0}, {-15, 0}, {-1, 0}, {0, 0}, {1, 1}, {2, 1}, {15, 1}, {16, 1}, {17, 2}, {31, 2}, {32, 2}, {33, 3},
		{1 << 34, 1 << 30}, {1<<34 + 1, 1<<30 + 1}, {math.MaxInt - 15, 1<<59 - 1}, {math.MaxInt - 14, 1 << 59}, {math.MaxInt - 1, 1 << 59}, {math.MaxInt, 1 << 59},
	} {
		want(t, fmt.Sprintf("Sectors(%d)", c[0]), disk.Sectors(c[0]), c[1])
	}
}

// P3.1: a head for each file, and a sector for each part of its bytes.
func TestUsed(t *testing.T) {
	d := disk.New(100)
	for i, n := range []int{0, 1, 15, 16, 17, 32, 33} {
		name := fmt.Sprint("a", i)
		before := d.Used()
		must(t, d.Create(name))
		want(t, "Used by a file of nothing", d.Used(), before+1)
		must(t, d.Append(name, letters('a', n)))
		want(t, fmt.Sprintf("Used by a file of %d bytes", n), d.Used(), before+1+(n+15)/16)
		must(t, d.Sync(name))
		want(t, "Used behind Sync", d.Used(), before+1+(n+15)/16)
	}
	for _, name := range d.List() {
		must(t, d.Remove(name))
	}
	want(t, "Used without files", d.Used(), 0)
}

// P3.2
func TestCreate(t *testing.T) {
	d := disk.New(10)
	must(t, d.Create("a"))
	wantRead(t, d, "a", nil)
	wantCounts(t, d, 1, 0, 1)
	must(t, d.Create("b"))
	must(t, d.Append("a", letters('a', 20)))
	must(t, d.Append("b", letters('m', 5)))
	wantCounts(t, d, 5, 3, 4)
	must(t, d.Create("a"))
	wantRead(t, d, "a", nil)
	wantRead(t, d, "b", letters('m', 5))
	wantCounts(t, d, 3, 1, 5)
	wantList(t, d, "a", "b")
}

// P3.2, P3.4: what a file had is gone with its place in the line, and is not there behind a crash.
func TestCreateAnew(t *testing.T) {
	d := disk.New(10)
	must(t, d.Create("a"))
	must(t, d.Append("a", letters('a', 20)))
	must(t, d.Sync("a"))
	must(t, d.Append("a", letters('a', 20)))
	must(t, d.Create("b"))
	must(t, d.Append("b", letters('m', 16)))
	must(t, d.Create("a"))
	must(t, d.Append("a", letters('p', 16)))
	want(t, "Dirty", d.Dirty(), 2)
	d.Crash(1)
	d.Start()
	wantRead(t, d, "a", nil)
	wantRead(t, d, "b", letters('m', 16))
}

// P3.2: without a free sector a file may be made anew, but none that is not there.
func TestCreateWithoutRoom(t *testing.T) {
	d := disk.New(0)
	want(t, "Create on a disk of 0", d.Create("a"), api.ErrFull)
	wantCounts(t, d, 0, 0, 0)
	wantList(t, d)

	d = disk.New(3)
	must(t, d.Create("a"))
	must(t, d.Append("a", letters('a', 17)))
	before := look(d)
	want(t, "Create without a free sector", d.Create("b"), api.ErrFull)
	want(t, "the disk", look(d), before)
	want(t, "Create of one that is there", d.Create("a"), api.OK)
	wantRead(t, d, "a", nil)
	wantCounts(t, d, 1, 0, 3)
	must(t, d.Create("b"))
	must(t, d.Create("c"))
	want(t, "Create of a fourth head on three sectors", d.Create("d"), api.ErrFull)
	want(t, "Create of the third again", d.Create("c"), api.OK)
	wantList(t, d, "a", "b", "c")
}

// P3.2: MaxFiles files, and no more.
func TestCreateTooMany(t *testing.T) {
	d := disk.New(1000)
	for i := range api.MaxFiles {
		must(t, d.Create(fmt.Sprint("f", i)))
	}
	must(t, d.Append("f7", letters('a', 5)))
	before := look(d)
	want(t, "Create of one more", d.Create("more"), api.ErrFull)
	want(t, "the disk", look(d), before)
	want(t, "Create of one that is there", d.Create("f7"), api.OK)
	wantRead(t, d, "f7", nil)
	must(t, d.Rename("f8", "f7"))
	want(t, "Create behind a Rename over another", d.Create("more"), api.OK)
	want(t, "Create of one more again", d.Create("f8"), api.ErrFull)
	must(t, d.Remove("f1"))
	want(t, "Create behind a Remove", d.Create("f8"), api.OK)
	want(t, "files", len(d.List()), api.MaxFiles)
}

// P3.2: what fits just so, and a byte more.
func TestAppendRoom(t *testing.T) {
	for _, c := range []struct {
		room, had, added int
		want             api.Errno
	}{
		{1, 0, 0, api.OK},
		{1, 0, 1, api.ErrFull},
		{2, 0, 16, api.OK},
		{2, 0, 17, api.ErrFull},
		{2, 16, 0, api.OK},
		{2, 16, 1, api.ErrFull},
		{2, 1, 15, api.OK},
		{2, 1, 16, api.ErrFull},
		{4, 17, 31, api.OK},
		{4, 17, 32, api.ErrFull},
		{4, 48, 0, api.OK},
		{4, 0, 1000, api.ErrFull},
	} {
		d := disk.New(c.room)
		must(t, d.Create("a"))
		must(t, d.Append("a", letters('a', c.had)))
		wanted, ops, dirty := letters('a', c.had), 2, disk.Sectors(c.had)
		if c.want == api.OK {
			wanted, ops, dirty = append(wanted, letters('k', c.added)...), 3, disk.Sectors(c.had+c.added)
		}
		want(t, fmt.Sprintf("Append of %d to %d in %d", c.added, c.had, c.room), d.Append("a", letters('k', c.added)), c.want)
		wantRead(t, d, "a", wanted)
		wantCounts(t, d, 1+dirty, dirty, ops)
	}
}

// P3.2: the sectors of all files count.
func TestAppendBesideOthers(t *testing.T) {
	d := disk.New(5)
	must(t, d.Create("a"))
	must(t, d.Create("b"))
	must(t, d.Append("a", letters('a', 17)))
	want(t, "Append of two sectors", d.Append("b", letters('m', 17)), api.ErrFull)
	want(t, "Append of one", d.Append("b", letters('m', 16)), api.OK)
	want(t, "Append of one more", d.Append("b", letters('m', 1)), api.ErrFull)
	want(t, "Append to a part of a sector", d.Append("a", letters('p', 15)), api.OK)
	want(t, "Append behind it", d.Append("a", letters('p', 1)), api.ErrFull)
	wantCounts(t, d, 5, 3, 5)
}

// P3.2: which sectors become dirty.
func TestAppendDirty(t *testing.T) {
	for _, c := range []struct {
		synced, first, second int
		dirty, dirtyThen      int
	}{
		{0, 0, 0, 0, 0},
		{0, 1, 0, 1, 1},
		{0, 1, 15, 1, 1},
		{0, 1, 16, 1, 2},
		{0, 16, 1, 1, 2},
		{0, 16, 0, 1, 1},
		{4, 0, 0, 0, 0},
		{4, 1, 1, 1, 1},
		{4, 12, 0, 1, 1},
		{4, 12, 1, 1, 2},
		{4, 13, 1, 2, 2},
		{16, 1, 1, 1, 1},
		{16, 0, 1, 0, 1},
		{15, 1, 1, 1, 2},
		{15, 2, 1, 2, 2},
		{20, 30, 0, 3, 3},
		{20, 30, 14, 3, 3},
		{20, 30, 15, 3, 4},
		{32, 32, 32, 2, 4},
		{33, 47, 1, 3, 4},
	} {
		d := disk.New(50)
		must(t, d.Create("a"))
		must(t, d.Append("a", letters('a', c.synced)))
		must(t, d.Sync("a"))
		want(t, "Dirty behind Sync", d.Dirty(), 0)
		must(t, d.Append("a", letters('b', c.first)))
		want(t, fmt.Sprintf("Dirty of %d behind %d", c.first, c.synced), d.Dirty(), c.dirty)
		must(t, d.Append("a", letters('c', c.second)))
		want(t, fmt.Sprintf("Dirty of %d and %d behind %d", c.first, c.second, c.synced), d.Dirty(), c.dirtyThen)
		all := append(append(letters('a', c.synced), letters('b', c.first)...), letters('c', c.second)...)
		wantRead(t, d, "a", all)
		wantCounts(t, d, 1+disk.Sectors(len(all)), c.dirtyThen, 5)
	}
}

// P3.2: Sync is of one file alone.
func TestSync(t *testing.T) {
	d := disk.New(50)
	must(t, d.Create("a"))
	must(t, d.Create("b"))
	must(t, d.Sync("a"))
	wantCounts(t, d, 2, 0, 3)
	must(t, d.Append("a", letters('a', 20)))
	must(t, d.Append("b", letters('m', 40)))
	must(t, d.Append("a", letters('b', 20)))
	want(t, "Dirty", d.Dirty(), 6)
	must(t, d.Sync("a"))
	want(t, "Dirty", d.Dirty(), 3)
	must(t, d.Sync("a"))
	wantCounts(t, d, 8, 3, 8)
	wantRead(t, d, "a", append(letters('a', 20), letters('b', 20)...))
	d.Crash(1)
	d.Start()
	wantRead(t, d, "a", append(letters('a', 20), letters('b', 20)...))
	wantRead(t, d, "b", letters('m', 16))
}

// P3.2
func TestRename(t *testing.T) {
	d := disk.New(50)
	must(t, d.Create("b"))
	must(t, d.Append("b", letters('a', 20)))
	must(t, d.Rename("b", "a"))
	wantList(t, d, "a")
	wantNone(t, d, "b")
	wantRead(t, d, "a", letters('a', 20))
	wantCounts(t, d, 3, 2, 3)
	must(t, d.Append("a", letters('b', 20)))
	must(t, d.Sync("a"))
	wantCounts(t, d, 4, 0, 5)
	must(t, d.Create("b"))
	wantRead(t, d, "b", nil)
	wantList(t, d, "a", "b")
}

// P3.2: what was there is gone, with its dirty sectors and its room.
func TestRenameOver(t *testing.T) {
	d := disk.New(50)
	must(t, d.Create("a"))
	must(t, d.Create("b"))
	must(t, d.Append("b", letters('m', 50)))
	must(t, d.Sync("b"))
	must(t, d.Append("b", letters('m', 50)))
	must(t, d.Append("a", letters('a', 20)))
	want(t, "Dirty", d.Dirty(), 6)
	must(t, d.Rename("a", "b"))
	wantList(t, d, "b")
	wantRead(t, d, "b", letters('a', 20))
	wantCounts(t, d, 3, 2, 7)
	d.Crash(1)
	d.Start()
	wantRead(t, d, "b", letters('a', 16))
}

// P3.2: a file with nothing dirty over one whose sectors are, and the other way round.
func TestRenameOverWritten(t *testing.T) {
	d := disk.New(50)
	must(t, d.Create("a"))
	must(t, d.Append("a", letters('a', 20)))
	must(t, d.Sync("a"))
	must(t, d.Create("b"))
	must(t, d.Append("b", letters('m', 40)))
	must(t, d.Rename("a", "b"))
	want(t, "Dirty", d.Dirty(), 0)
	must(t, d.Create("c"))
	must(t, d.Append("c", letters('p', 40)))
	must(t, d.Rename("c", "b"))
	want(t, "Dirty", d.Dirty(), 3)
	d.Crash(0)
	d.Start()
	wantRead(t, d, "b", nil)
	wantList(t, d, "b")
}

// P3.2: nothing changes, but it is an operation.
func TestRenameToItself(t *testing.T) {
	d := disk.New(50)
	must(t, d.Create("a"))
	must(t, d.Append("a", letters('a', 20)))
	must(t, d.Create("b"))
	must(t, d.Append("b", letters('m', 20)))
	must(t, d.Rename("a", "a"))
	wantList(t, d, "a", "b")
	wantRead(t, d, "a", letters('a', 20))
	wantCounts(t, d, 6, 4, 5)
	d.Crash(3)
	d.Start()
	wantRead(t, d, "a", letters('a', 20))
	wantRead(t, d, "b", letters('m', 16))
}

// P3.2: a renamed file's sectors stay where they are between those of others.
func TestRenameInLine(t *testing.T) {
	for keep, sizes := range [][3]int{{0, 0, 0}, {16, 0, 0}, {16, 16, 0}, {16, 16, 16}, {16, 32, 16}, {32, 32, 16}, {32, 32, 32}} {
		d := disk.New(50)
		for _, name := range []string{"a", "b", "c"} {
			must(t, d.Create(name))
		}
		must(t, d.Append("a", letters('a', 16)))
		must(t, d.Append("b", letters('b', 16)))
		must(t, d.Append("c", letters('c', 16)))
		must(t, d.Append("b", letters('r', 16)))
		must(t, d.Append("a", letters('q', 16)))
		must(t, d.Rename("b", "z"))
		must(t, d.Append("c", letters('s', 16)))
		want(t, "Dirty", d.Dirty(), 6)
		d.Crash(keep)
		d.Start()
		wantList(t, d, "a", "c", "z")
		wantRead(t, d, "a", append(letters('a', 16), letters('q', 16)...)[:sizes[0]])
		wantRead(t, d, "z", append(letters('b', 16), letters('r', 16)...)[:sizes[1]])
		wantRead(t, d, "c", append(letters('c', 16), letters('s', 16)...)[:sizes[2]])
	}
}

// P3.2
func TestRemove(t *testing.T) {
	d := disk.New(50)
	must(t, d.Create("a"))
	must(t, d.Create("b"))
	must(t, d.Append("a", letters('a', 50)))
	must(t, d.Append("b", letters('m', 20)))
	must(t, d.Remove("a"))
	wantList(t, d, "b")
	wantNone(t, d, "a")
	wantCounts(t, d, 3, 2, 5)
	want(t, "Remove of one that is gone", d.Remove("a"), api.ErrNone)
	must(t, d.Create("a"))
	wantRead(t, d, "a", nil)
	d.Crash(1)
	d.Start()
	wantRead(t, d, "b", letters('m', 16))
}

// P3.3: the names rise by their bytes, whatever the order in which they came.
func TestList(t *testing.T) {
	d := disk.New(50)
	for _, name := range []string{"b", "log-9", "a.b", "log-10", "a", "log", "a-b", "zz", "a0", "ab"} {
		must(t, d.Create(name))
		must(t, d.Create(name))
	}
	wantList(t, d, "a", "a-b", "a.b", "a0", "ab", "b", "log", "log-10", "log-9", "zz")
	must(t, d.Rename("zz", "aa"))
	must(t, d.Remove("b"))
	wantList(t, d, "a", "a-b", "a.b", "a0", "aa", "ab", "log", "log-10", "log-9")
}

// P3.3: only the five operations count, and only without an error.
func TestOps(t *testing.T) {
	d := disk.New(4)
	count := 0
	step := func(what string, e, wanted api.Errno, more int) {
		t.Helper()
		count += more
		want(t, what, e, wanted)
		want(t, "Ops behind "+what, d.Ops(), count)
	}
	read := func(name string) api.Errno {
		_, e := d.Read(name)
		return e
	}
	step("Create", d.Create("a"), api.OK, 1)
	step("Create anew", d.Create("a"), api.OK, 1)
	step("Create of no name", d.Create(""), api.ErrName, 0)
	step("Append", d.Append("a", letters('a', 30)), api.OK, 1)
	step("Append of nothing", d.Append("a", nil), api.OK, 1)
	step("Append of too much", d.Append("a", letters('a', 30)), api.ErrFull, 0)
	step("Append to none", d.Append("b", nil), api.ErrNone, 0)
	step("Sync", d.Sync("a"), api.OK, 1)
	step("Sync again", d.Sync("a"), api.OK, 1)
	step("Sync of none", d.Sync("b"), api.ErrNone, 0)
	step("Rename", d.Rename("a", "b"), api.OK, 1)
	step("Rename to itself", d.Rename("b", "b"), api.OK, 1)
	step("Rename of none", d.Rename("a", "b"), api.ErrNone, 0)
	step("Read", read("b"), api.OK, 0)
	step("Read of none", read("a"), api.ErrNone, 0)
	step("Spoil", d.Spoil("b", 0, 0), api.OK, 0)
	step("Spoil of no byte", d.Spoil("b", 30, 0), api.ErrArg, 0)
	step("Create of another", d.Create("c"), api.OK, 1)
	step("Create without room", d.Create("d"), api.ErrFull, 0)
	step("Remove", d.Remove("b"), api.OK, 1)
	step("Remove of none", d.Remove("b"), api.ErrNone, 0)
	step("Arm", d.Arm(1, 0), api.OK, 0)
	step("Sync that fails", d.Sync("c"), api.ErrPower, 1)
	step("Sync without power", d.Sync("c"), api.ErrPower, 0)
	d.Start()
	step("Sync behind Start", d.Sync("c"), api.OK, 1)
}

// P3.3
func TestSpoil(t *testing.T) {
	d := disk.New(50)
	must(t, d.Create("a"))
	must(t, d.Create("empty"))
	must(t, d.Append("a", letters('a', 20)))
	must(t, d.Sync("a"))
	must(t, d.Append("a", letters('b', 20)))
	wanted := append(letters('a', 20), letters('b', 20)...)
	for _, at := range []int{0, 1, 15, 16, 19, 20, 38, 39} {
		for bit := range 8 {
			want(t, "Spoil", d.Spoil("a", at, bit), api.OK)
			wanted[at] ^= 1 << bit
			wantRead(t, d, "a", wanted)
		}
	}
	want(t, "Spoil of a bit that was turned", d.Spoil("a", 0, 7), api.OK)
	wanted[0] ^= 128
	wantRead(t, d, "a", wanted)
	wantCounts(t, d, 5, 2, 5)
	before := look(d)
	for _, c := range [][2]int{{-1, 0}, {40, 0}, {41, 7}, {0, -1}, {0, 8}, {39, 8}, {39, -1}, {math.MinInt, 0}, {math.MaxInt, 0}, {0, math.MinInt}, {0, math.MaxInt}, {0, 64}, {0, 256}} {
		want(t, fmt.Sprintf("Spoil(a, %d, %d)", c[0], c[1]), d.Spoil("a", c[0], c[1]), api.ErrArg)
	}
	want(t, "Spoil of a file of nothing", d.Spoil("empty", 0, 0), api.ErrArg)
	want(t, "the disk", look(d), before)
}

// P3.3: Spoil is no operation, so none that is planned fails by it, and it makes nothing dirty.
func TestSpoilIsNoOperation(t *testing.T) {
	d := disk.New(50)
	must(t, d.Create("a"))
	must(t, d.Append("a", letters('a', 20)))
	must(t, d.Sync("a"))
	must(t, d.Arm(1, 0))
	want(t, "Spoil", d.Spoil("a", 3, 0), api.OK)
	wantCounts(t, d, 3, 0, 3)
	d.Crash(0)
	d.Start()
	wanted := letters('a', 20)
	wanted[3] ^= 1
	wantRead(t, d, "a", wanted)
}

// The errors of each call in their order, with two at once.
func TestErrorOrder(t *testing.T) {
	full := disk.New(3)
	must(t, full.Create("a"))
	must(t, full.Append("a", letters('a', 32)))
	must(t, full.Arm(5, 1))
	before := look(full)
	many := letters('a', 100)
	for _, c := range []struct {
		what string
		got  api.Errno
		want api.Errno
	}{
		{"Create of a wrong name without room", full.Create("A"), api.ErrName},
		{"Create without room", full.Create("b"), api.ErrFull},
		{"Append to a wrong name", full.Append("", many), api.ErrName},
		{"Append to a name that is too long", full.Append(strings.Repeat("a", 41), many), api.ErrName},
		{"Append to none without room", full.Append("b", many), api.ErrNone},
		{"Append without room", full.Append("a", many), api.ErrFull},
		{"Sync of a wrong name", full.Sync("0"), api.ErrName},
		{"Sync of none", full.Sync("b"), api.ErrNone},
		{"Rename of a wrong name", full.Rename("A", "b"), api.ErrName},
		{"Rename of a wrong name to a wrong name", full.Rename("A", "B"), api.ErrName},
		{"Rename of a wrong name to itself", full.Rename("A", "A"), api.ErrName},
		{"Rename of none to a wrong name", full.Rename("b", "B"), api.ErrName},
		{"Rename to a wrong name", full.Rename("a", ""), api.ErrName},
		{"Rename of none", full.Rename("b", "c"), api.ErrNone},
		{"Rename of none to itself", full.Rename("b", "b"), api.ErrNone},
		{"Rename of none over one", full.Rename("b", "a"), api.ErrNone},
		{"Remove of a wrong name", full.Remove("a/b"), api.ErrName},
		{"Remove of none", full.Remove("b"), api.ErrNone},
		{"Spoil of a wrong name", full.Spoil("A", -1, 9), api.ErrName},
		{"Spoil of none", full.Spoil("b", -1, 9), api.ErrNone},
		{"Spoil of no byte and no bit", full.Spoil("a", -1, 9), api.ErrArg},
		{"Arm below 0", full.Arm(-1, 0), api.ErrArg},
	} {
		want(t, c.what, c.got, c.want)
	}
	for _, c := range []struct {
		name string
		want api.Errno
	}{{"", api.ErrName}, {"A", api.ErrName}, {"b", api.ErrNone}} {
		got, e := full.Read(c.name)
		if len(got) != 0 || e != c.want {
			t.Errorf("Read(%q): %q, %v, want %v", c.name, got, e, c.want)
		}
	}
	want(t, "the disk", look(full), before)
}

// Without power each call that answers an error answers that, ahead of all others but ErrMade.
func TestErrorsWithoutPower(t *testing.T) {
	d := disk.New(4)
	must(t, d.Create("a"))
	must(t, d.Append("a", letters('a', 20)))
	must(t, d.Sync("a"))
	d.Crash(0)
	for _, name := range []string{"a", "b", "", "A"} {
		want(t, "Create", d.Create(name), api.ErrPower)
		want(t, "Append", d.Append(name, nil), api.ErrPower)
		want(t, "Append", d.Append(name, letters('a', 100)), api.ErrPower)
		want(t, "Sync", d.Sync(name), api.ErrPower)
		want(t, "Rename", d.Rename(name, "c"), api.ErrPower)
		want(t, "Rename", d.Rename("a", name), api.ErrPower)
		want(t, "Remove", d.Remove(name), api.ErrPower)
		want(t, "Spoil", d.Spoil(name, 0, 0), api.ErrPower)
		want(t, "Spoil", d.Spoil(name, -1, 8), api.ErrPower)
		got, e := d.Read(name)
		want(t, "Read", e, api.ErrPower)
		want(t, "bytes beside an error", len(got), 0)
	}
	for _, n := range []int{-1, 0, 1} {
		want(t, "Arm", d.Arm(n, 0), api.ErrPower)
	}
	wantOff(t, d, 3)
	d.Start()
	wantList(t, d, "a")
	wantRead(t, d, "a", letters('a', 20))
	wantCounts(t, d, 3, 0, 3)
}

// R5: a nil disk, and one that no call made.
func TestNotMade(t *testing.T) {
	for _, d := range []*disk.Disk{nil, new(disk.Disk), disk.New(-1)} {
		for range 2 {
			want(t, "Create", d.Create("a"), api.ErrMade)
			want(t, "Create of a wrong name", d.Create(""), api.ErrMade)
			want(t, "Append", d.Append("a", letters('a', 3)), api.ErrMade)
			want(t, "Append of nothing", d.Append("", nil), api.ErrMade)
			want(t, "Sync", d.Sync("a"), api.ErrMade)
			want(t, "Rename", d.Rename("a", "b"), api.ErrMade)
			want(t, "Rename of wrong names", d.Rename("", ""), api.ErrMade)
			want(t, "Remove", d.Remove("a"), api.ErrMade)
			got, e := d.Read("a")
			want(t, "Read", e, api.ErrMade)
			want(t, "bytes beside an error", len(got), 0)
			want(t, "Arm", d.Arm(1, 1), api.ErrMade)
			want(t, "Arm below 0", d.Arm(-1, 1), api.ErrMade)
			want(t, "Spoil", d.Spoil("a", 0, 0), api.ErrMade)
			want(t, "Spoil of nothing", d.Spoil("", -1, -1), api.ErrMade)
			want(t, "On", d.On(), false)
			wantList(t, d)
			wantCounts(t, d, 0, 0, 0)
			d.Crash(1)
			d.Start()
			want(t, "On behind Start", d.On(), false)
		}
	}
}

// spoil changes a list and the room behind its end.
func spoil(b []byte) {
	b = b[:cap(b)]
	for i := range b {
		b[i] ^= 255
	}
}

// R3: what is appended is neither changed nor kept, nor is the room behind it.
func TestAppendMemory(t *testing.T) {
	d := disk.New(100)
	must(t, d.Create("a"))
	must(t, d.Create("b"))
	room := letters('a', 100)
	given := room[10:30]
	must(t, d.Append("a", given))
	must(t, d.Append("a", letters('p', 9)))
	must(t, d.Append("b", given))
	must(t, d.Spoil("b", 3, 3))
	must(t, d.Spoil("b", 3, 3))
	must(t, d.Spoil("a", 0, 0))
	must(t, d.Spoil("a", 0, 0))
	if !bytes.Equal(room, letters('a', 100)) {
		t.Errorf("Append changed its argument: %q", room)
	}
	wanted := bytes.Clone(given)
	spoil(room)
	wantRead(t, d, "a", append(bytes.Clone(wanted), letters('p', 9)...))
	wantRead(t, d, "b", wanted)
}

// R3: what Read answers is new memory each time, and stays as it was.
func TestReadMemory(t *testing.T) {
	for _, n := range []int{0, 1, 5, 20, 40} {
		d := disk.New(100)
		must(t, d.Create("a"))
		must(t, d.Append("a", letters('a', n)))
		must(t, d.Append("a", letters('p', 3)))
		all := append(letters('a', n), letters('p', 3)...)
		first, _ := d.Read("a")
		second, _ := d.Read("a")
		spoil(first)
		wantRead(t, d, "a", all)
		if !bytes.Equal(second, all) {
			t.Errorf("two answers of Read share memory: %q", second)
		}
		must(t, d.Append("a", letters('q', 5)))
		must(t, d.Spoil("a", 0, 0))
		if !bytes.Equal(second, all) {
			t.Errorf("an answer of Read changes with the file: %q", second)
		}
		must(t, d.Append("a", second))
		must(t, d.Spoil("a", 0, 0))
		wanted := append(append(bytes.Clone(all), letters('q', 5)...), second...)
		spoil(second)
		wantRead(t, d, "a", wanted)
	}
}

// R3: the room behind what Read answers is not the file's, which a crash may have shortened.
func TestReadMemoryBehindCrash(t *testing.T) {
	d := disk.New(100)
	must(t, d.Create("a"))
	must(t, d.Append("a", letters('a', 64)))
	d.Crash(1)
	d.Start()
	got, _ := d.Read("a")
	must(t, d.Append("a", letters('p', 32)))
	spoil(got)
	wantRead(t, d, "a", append(letters('a', 16), letters('p', 32)...))
}

// R3: what List answers is new memory each time.
func TestListMemory(t *testing.T) {
	d := disk.New(100)
	for _, name := range []string{"b", "a", "c"} {
		must(t, d.Create(name))
	}
	first, second := d.List(), d.List()
	first = first[:cap(first)]
	for i := range first {
		first[i] = "x"
	}
	wantList(t, d, "a", "b", "c")
	must(t, d.Remove("b"))
	if !slices.Equal(second, []string{"a", "b", "c"}) {
		t.Errorf("an answer of List changed: %q", second)
	}
}

// R4: two disks share nothing.
func TestTwoDisks(t *testing.T) {
	d, other := disk.New(10), disk.New(10)
	must(t, d.Create("a"))
	must(t, d.Append("a", letters('a', 20)))
	must(t, d.Arm(1, 0))
	wantList(t, other)
	wantCounts(t, other, 0, 0, 0)
	must(t, other.Create("a"))
	want(t, "an operation that fails", d.Sync("a"), api.ErrPower)
	want(t, "On of the other", other.On(), true)
	wantRead(t, other, "a", nil)
}
