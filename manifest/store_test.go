package manifest_test

import (
	"bytes"
	"fmt"
	"math"
	"slices"
	"testing"

	"skerry/api"
	"skerry/disk"
	"skerry/manifest"
)

// all tells the whole of a disk with power.
func all(d *disk.Disk) string {
	s := fmt.Sprintln(d.On(), d.Used(), d.Dirty(), d.Ops())
	for _, name := range d.List() {
		b, _ := d.Read(name)
		s += fmt.Sprintf("%s %x\n", name, b)
	}
	return s
}

// lay: a file of bytes that are sure.
func lay(t *testing.T, d *disk.Disk, name string, b []byte) {
	t.Helper()
	must(t, d.Create(name))
	must(t, d.Append(name, b))
	must(t, d.Sync(name))
}

func wantLoad(t *testing.T, d *disk.Disk, wanted manifest.Manifest) {
	t.Helper()
	if m, e := manifest.Load(d); e != api.OK || !same(m, wanted) {
		t.Fatalf("Load: %v, %v; want %v", m, e, wanted)
	}
}

func wantNoLoad(t *testing.T, d *disk.Disk, errno api.Errno) {
	t.Helper()
	if m, e := manifest.Load(d); e != errno || !same(m, manifest.Manifest{}) {
		t.Fatalf("Load: %v, %v; want nothing, %v", m, e, errno)
	}
}

func wantList(t *testing.T, d *disk.Disk, names ...string) {
	t.Helper()
	if got := d.List(); !slices.Equal(got, names) {
		t.Errorf("List: %q, want %q", got, names)
	}
}

func wantFile(t *testing.T, d *disk.Disk, name string, wanted []byte) {
	t.Helper()
	if b, e := d.Read(name); e != api.OK || !bytes.Equal(b, wanted) {
		t.Errorf("%s: %x, %v; want %x", name, b, e, wanted)
	}
}

// rotten: what a file manifest may have that is none.
func rotten() [][]byte {
	good := slowBytes(of(9, 5, 2, 8))
	turned := bytes.Clone(good)
	turned[9] ^= 4
	return [][]byte{
		nil, {0}, good[:len(good)-1], append(bytes.Clone(good), 0), turned,
		slowBytes(of(3, 1, 1, 1)), slowBytes(of(0, 1)), framed(nil), make([]byte, 500),
	}
}

// The first example of the chapter, P13.3.
func TestLoadOfEmptyDisk(t *testing.T) {
	for _, room := range []int{0, 1, 1000, 1 << 30} {
		d := disk.New(room)
		before := all(d)
		wantLoad(t, d, manifest.Begin())
		wantLoad(t, d, of(1, 1))
		want(t, "the disk", all(d), before)
	}
}

// P13.3: other files are not looked at, a manifest.new neither.
func TestLoadBesideOtherFiles(t *testing.T) {
	d := disk.New(1000)
	for _, name := range []string{"manifest.new", "manifest.old", "manifest-1", "manifes", "tab-1", "log-1"} {
		lay(t, d, name, slowBytes(of(9, 5, 2, 8)))
	}
	wantLoad(t, d, manifest.Begin())
	lay(t, d, "manifest", slowBytes(of(4, 6, 3)))
	wantLoad(t, d, of(4, 6, 3))
}

// P13.3: a file that is there, written by Store or not, synced or not.
func TestLoadOfFile(t *testing.T) {
	for _, m := range goodOnes() {
		d := disk.New(1000)
		must(t, d.Create("manifest"))
		must(t, d.Append("manifest", slowBytes(m)))
		must(t, d.Arm(1, 0))
		before := all(d)
		wantLoad(t, d, m)
		wantLoad(t, d, m)
		want(t, "the disk", all(d), before)
	}
}

// P13.3: a file that is none.
func TestLoadOfRottenFile(t *testing.T) {
	for _, b := range rotten() {
		d := disk.New(1000)
		lay(t, d, "manifest", b)
		lay(t, d, "manifest.new", slowBytes(of(4, 6, 3)))
		before := all(d)
		wantNoLoad(t, d, api.ErrCorrupt)
		want(t, "the disk", all(d), before)
	}
	d := disk.New(1000)
	must(t, manifest.Store(d, of(9, 5, 2, 8)))
	for i := range 8 * len(slowBytes(of(9, 5, 2, 8))) {
		must(t, d.Spoil("manifest", i/8, i%8))
		wantNoLoad(t, d, api.ErrCorrupt)
		must(t, d.Spoil("manifest", i/8, i%8))
	}
	wantLoad(t, d, of(9, 5, 2, 8))
}

// P13.3: four operations, and then the file manifest alone, which is sure.
func TestStore(t *testing.T) {
	d := disk.New(1000)
	for i, m := range goodOnes() {
		must(t, manifest.Store(d, m))
		want(t, "Ops", d.Ops(), 4*(i+1))
		want(t, "Dirty", d.Dirty(), 0)
		wantList(t, d, "manifest")
		wantFile(t, d, "manifest", slowBytes(m))
		wantLoad(t, d, m)
		d.Crash(0)
		d.Start()
		wantLoad(t, d, m)
	}
	must(t, manifest.Store(d, of(9, 5, 2, 8)))
	must(t, manifest.Store(d, of(9, 5, 2, 8)))
	wantLoad(t, d, of(9, 5, 2, 8))
}

// P13.3: whatever stood in the files manifest and manifest.new is no hindrance.
func TestStoreOverFiles(t *testing.T) {
	for _, b := range append(rotten(), slowBytes(of(7, 7, 1))) {
		for _, names := range [][]string{{"manifest"}, {"manifest.new"}, {"manifest", "manifest.new"}} {
			for _, sure := range []bool{false, true} {
				d := disk.New(1000)
				for _, name := range names {
					must(t, d.Create(name))
					must(t, d.Append(name, b))
					if sure {
						must(t, d.Sync(name))
					}
				}
				ops := d.Ops()
				must(t, manifest.Store(d, of(4, 6, 3)))
				want(t, "Ops", d.Ops()-ops, 4)
				want(t, "Dirty", d.Dirty(), 0)
				wantList(t, d, "manifest")
				wantLoad(t, d, of(4, 6, 3))
			}
		}
	}
}

// P13.3: other files stay as they are, and what is dirty of them stays so.
func TestStoreBesideOtherFiles(t *testing.T) {
	d := disk.New(1000)
	lay(t, d, "log-1", []byte("sure"))
	must(t, d.Append("log-1", make([]byte, 40)))
	must(t, d.Create("tab-1"))
	must(t, d.Append("tab-1", make([]byte, 20)))
	want(t, "Dirty", d.Dirty(), 5)
	must(t, manifest.Store(d, of(4, 6, 3)))
	want(t, "Dirty", d.Dirty(), 5)
	wantList(t, d, "log-1", "manifest", "tab-1")
	wantFile(t, d, "log-1", append([]byte("sure"), make([]byte, 40)...))
	wantFile(t, d, "tab-1", make([]byte, 20))
	d.Crash(0)
	d.Start()
	wantFile(t, d, "log-1", []byte("sure"))
	wantFile(t, d, "tab-1", nil)
	wantLoad(t, d, of(4, 6, 3))
}

// P13.3: a manifest that is not good is refused ahead of all that the disk does.
func TestStoreOfBadOnes(t *testing.T) {
	for _, m := range badOnes() {
		for _, room := range []int{0, 1000} {
			d := disk.New(room)
			if room > 0 {
				must(t, manifest.Store(d, of(9, 5, 2, 8)))
				lay(t, d, "manifest.new", []byte("left"))
			}
			must(t, d.Arm(1, 0))
			before := all(d)
			want(t, fmt.Sprintf("Store(%v)", m), manifest.Store(d, m), api.ErrArg)
			want(t, "the disk", all(d), before)
		}
	}
}

// R5, P13.3: a disk that no call made, whatever is stored.
func TestNoDisk(t *testing.T) {
	for _, d := range []*disk.Disk{nil, {}, disk.New(-1)} {
		wantNoLoad(t, d, api.ErrMade)
		for _, m := range slices.Concat(goodOnes(), badOnes()) {
			want(t, fmt.Sprintf("Store(%v)", m), manifest.Store(d, m), api.ErrMade)
		}
		wantNoLoad(t, d, api.ErrMade)
	}
}

// P13.3: a disk without power, whatever is stored, and whatever it has.
func TestWithoutPower(t *testing.T) {
	full := disk.New(0)
	empty := disk.New(1000)
	stored := disk.New(1000)
	must(t, manifest.Store(stored, of(9, 5, 2, 8)))
	spoiled := disk.New(1000)
	lay(t, spoiled, "manifest", []byte("none"))
	for _, d := range []*disk.Disk{full, empty, stored, spoiled} {
		before := all(d)
		d.Crash(math.MaxInt)
		wantNoLoad(t, d, api.ErrPower)
		for _, m := range slices.Concat(goodOnes(), badOnes()) {
			want(t, fmt.Sprintf("Store(%v)", m), manifest.Store(d, m), api.ErrPower)
		}
		want(t, "On", d.On(), false)
		wantNoLoad(t, d, api.ErrPower)
		d.Start()
		want(t, "the disk", all(d), before)
	}
}

// P13.3: each number of free sectors, from none on, with and without a manifest and a manifest.new that was left.
func TestStoreWithLittleRoom(t *testing.T) {
	had := of(9, 5, 2, 8)
	for _, m := range goodOnes() {
		needs := disk.Sectors(len(slowBytes(m)))
		for free := range needs + 4 {
			for kind := range 4 {
				d, wanted := disk.New(1000), manifest.Begin()
				if kind&1 != 0 {
					must(t, manifest.Store(d, had))
					wanted = had
				}
				if kind&2 != 0 {
					lay(t, d, "manifest.new", make([]byte, 16))
				}
				lay(t, d, "rest", make([]byte, 16*(1000-d.Used()-1-free)))
				want(t, "free sectors", 1000-d.Used(), free)
				roomy := free >= 1+needs || kind&2 != 0 && free+1 >= needs
				wantStoreOrFull(t, d, m, wanted, roomy)
			}
		}
	}
}

// wantStoreOrFull: with room it is stored; without, the disk tells so, and what was there is there.
func wantStoreOrFull(t *testing.T, d *disk.Disk, m, had manifest.Manifest, roomy bool) {
	t.Helper()
	left := slices.Contains(d.List(), "manifest.new")
	free, ops := 1000-d.Used(), d.Ops()
	if roomy {
		must(t, manifest.Store(d, m))
		want(t, "Ops", d.Ops()-ops, 4)
		wantLoad(t, d, m)
		return
	}
	want(t, fmt.Sprintf("Store(%v) with %d free sectors", m, free), manifest.Store(d, m), api.ErrFull)
	wantLoad(t, d, had)
	want(t, "On", d.On(), true)
	if !left && free == 0 {
		want(t, "Ops", d.Ops()-ops, 0)
		return
	}
	want(t, "Ops", d.Ops()-ops, 1)
	wantFile(t, d, "manifest.new", nil)
	must(t, d.Remove("rest"))
	must(t, manifest.Store(d, m))
	wantLoad(t, d, m)
}

// P13.3: as many files as there may be.
func TestStoreWithManyFiles(t *testing.T) {
	crowd := func(d *disk.Disk) {
		for i := 0; len(d.List()) < api.MaxFiles; i++ {
			must(t, d.Create(manifest.File(i+1)))
		}
	}
	d := disk.New(1000)
	crowd(d)
	before := all(d)
	want(t, "Store", manifest.Store(d, of(4, 6, 3)), api.ErrFull)
	want(t, "the disk", all(d), before)
	wantLoad(t, d, manifest.Begin())
	must(t, d.Remove("tab-1"))
	must(t, manifest.Store(d, of(4, 6, 3)))
	before = all(d)
	want(t, "Store", manifest.Store(d, of(5, 6, 4)), api.ErrFull)
	want(t, "the disk", all(d), before)
	wantLoad(t, d, of(4, 6, 3))

	d = disk.New(1000)
	lay(t, d, "manifest.new", []byte("left"))
	crowd(d)
	must(t, manifest.Store(d, of(4, 6, 3)))
	wantLoad(t, d, of(4, 6, 3))
	want(t, "files", len(d.List()), api.MaxFiles)
}

// R4: two disks have two manifests.
func TestTwoDisks(t *testing.T) {
	a, b := disk.New(1000), disk.New(1000)
	must(t, manifest.Store(a, of(9, 5, 2, 8)))
	wantLoad(t, b, manifest.Begin())
	must(t, manifest.Store(b, of(4, 6, 3)))
	wantLoad(t, a, of(9, 5, 2, 8))
	wantLoad(t, b, of(4, 6, 3))
}
