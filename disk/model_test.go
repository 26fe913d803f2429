package disk_test

import (
	"bytes"
	"fmt"
	"maps"
	"slices"
	"testing"

	"skerry/api"
	"skerry/disk"
)

// source tells the same numbers each time (SplitMix64), so that a test that failed fails again.
type source struct {
	state uint64
}

func (s *source) next() uint64 {
	s.state += 0x9e3779b97f4a7c15
	z := s.state
	z = (z ^ z>>30) * 0xbf58476d1ce4e5b9
	z = (z ^ z>>27) * 0x94d049bb133111eb
	return z ^ z>>31
}

func (s *source) below(n int) int {
	return int(s.next() % uint64(n))
}

func (s *source) bytes(n int) []byte {
	b := make([]byte, n)
	for i := range b {
		b[i] = byte(s.next())
	}
	return b
}

// slowSector is one of a slowDisk: of its bytes the first written ones are sure.
type slowSector struct {
	bytes   []byte
	written int
}

type slowFile struct {
	sectors []*slowSector
}

// slowDisk follows the document's words one by one: files of sectors, and a line of those that are dirty.
type slowDisk struct {
	room    int
	off     bool
	files   map[string]*slowFile
	line    []*slowSector
	ops     int
	planned int
	keep    int
}

func (d *slowDisk) used() int {
	n := 0
	for _, f := range d.files {
		n += 1 + len(f.sectors)
	}
	return n
}

func (d *slowDisk) clean(f *slowFile) {
	if f == nil {
		return
	}
	d.line = slices.DeleteFunc(d.line, func(s *slowSector) bool { return slices.Contains(f.sectors, s) })
}

func (d *slowDisk) crash(keep int) {
	if d.off {
		return
	}
	d.off = true
	for i, s := range d.line {
		if i < keep {
			s.written = len(s.bytes)
		}
	}
	d.line = nil
	for _, f := range d.files {
		for i, s := range f.sectors {
			s.bytes = s.bytes[:s.written]
			if s.written == 0 {
				f.sectors = f.sectors[:i]
				break
			}
		}
	}
}

func (d *slowDisk) fails() bool {
	d.ops++
	if d.planned == 0 {
		return false
	}
	d.planned--
	return d.planned == 0
}

func (d *slowDisk) wrong(names ...string) api.Errno {
	if d.off {
		return api.ErrPower
	}
	for _, name := range names {
		if !disk.Good(name) {
			return api.ErrName
		}
	}
	return api.OK
}

func (d *slowDisk) missing(name string, others ...string) api.Errno {
	e := d.wrong(append(others, name)...)
	if e == api.OK && d.files[name] == nil {
		return api.ErrNone
	}
	return e
}

// simple: an operation of which a failure leaves nothing.
func (d *slowDisk) simple(e api.Errno, do func()) api.Errno {
	if e != api.OK {
		return e
	}
	if d.fails() {
		d.crash(d.keep)
		return api.ErrPower
	}
	do()
	return api.OK
}

func (d *slowDisk) create(name string) api.Errno {
	e := d.wrong(name)
	if e == api.OK && d.files[name] == nil && (len(d.files) == api.MaxFiles || d.used() == d.room) {
		e = api.ErrFull
	}
	return d.simple(e, func() {
		d.clean(d.files[name])
		d.files[name] = &slowFile{}
	})
}

func (d *slowDisk) put(f *slowFile, c byte) {
	n := len(f.sectors)
	if n == 0 || len(f.sectors[n-1].bytes) == 16 {
		f.sectors = append(f.sectors, &slowSector{})
		n++
	}
	s := f.sectors[n-1]
	s.bytes = append(s.bytes, c)
	if !slices.Contains(d.line, s) {
		d.line = append(d.line, s)
	}
}

func (d *slowDisk) read(name string) []byte {
	var b []byte
	for _, s := range d.files[name].sectors {
		b = append(b, s.bytes...)
	}
	return b
}

func (d *slowDisk) append(name string, b []byte) api.Errno {
	if e := d.missing(name); e != api.OK {
		return e
	}
	f := d.files[name]
	needed := (len(d.read(name)) + len(b) + 15) / 16
	if d.used()-len(f.sectors)+needed > d.room {
		return api.ErrFull
	}
	failing := d.fails()
	for _, c := range b {
		d.put(f, c)
	}
	if failing {
		d.crash(d.keep)
		return api.ErrPower
	}
	return api.OK
}

func (d *slowDisk) sync(name string) api.Errno {
	return d.simple(d.missing(name), func() {
		f := d.files[name]
		for _, s := range f.sectors {
			s.written = len(s.bytes)
		}
		d.clean(f)
	})
}

func (d *slowDisk) rename(from, to string) api.Errno {
	return d.simple(d.missing(from, to), func() {
		if from == to {
			return
		}
		d.clean(d.files[to])
		d.files[to] = d.files[from]
		delete(d.files, from)
	})
}

func (d *slowDisk) remove(name string) api.Errno {
	return d.simple(d.missing(name), func() {
		d.clean(d.files[name])
		delete(d.files, name)
	})
}

func (d *slowDisk) spoil(name string, at, bit int) api.Errno {
	if e := d.missing(name); e != api.OK {
		return e
	}
	if at < 0 || at >= len(d.read(name)) || bit < 0 || bit > 7 {
		return api.ErrArg
	}
	d.files[name].sectors[at/16].bytes[at%16] ^= 1 << bit
	return api.OK
}

func (d *slowDisk) arm(n, keep int) api.Errno {
	if d.off {
		return api.ErrPower
	}
	if n < 0 {
		return api.ErrArg
	}
	d.planned, d.keep = n, keep
	return api.OK
}

func (d *slowDisk) start() {
	d.off = false
	d.planned = 0
}

// pair: a disk and the slow one to which the same is done.
type pair struct {
	*source
	disk  *disk.Disk
	slow  *slowDisk
	names []string
	sizes int
}

func (p *pair) name() string {
	return p.names[p.below(len(p.names))]
}

// step does one call, by chance, to both: its text, and what they answered.
func (p *pair) step() (string, api.Errno, api.Errno) {
	name, other, n, keep := p.name(), p.name(), p.below(9)-1, p.below(9)-1
	switch p.below(24) {
	case 0, 1, 2:
		return "Create " + name, p.disk.Create(name), p.slow.create(name)
	case 3, 4, 5, 6, 7, 8, 9, 10:
		b := p.bytes(p.below(p.sizes))
		return fmt.Sprint("Append ", name, len(b)), p.disk.Append(name, b), p.slow.append(name, b)
	case 11, 12:
		return "Sync " + name, p.disk.Sync(name), p.slow.sync(name)
	case 13, 14:
		return "Rename " + name + " " + other, p.disk.Rename(name, other), p.slow.rename(name, other)
	case 15:
		return "Remove " + name, p.disk.Remove(name), p.slow.remove(name)
	case 16, 17:
		at, bit := p.below(70)-1, p.below(10)-1
		return fmt.Sprint("Spoil ", name, at, bit), p.disk.Spoil(name, at, bit), p.slow.spoil(name, at, bit)
	case 18:
		return fmt.Sprint("Arm ", n, keep), p.disk.Arm(n, keep), p.slow.arm(n, keep)
	case 19:
		p.disk.Crash(keep)
		p.slow.crash(keep)
		return fmt.Sprint("Crash ", keep), api.OK, api.OK
	case 20, 21, 22:
		if p.disk.On() {
			return "nothing", api.OK, api.OK
		}
		fallthrough
	default:
		p.disk.Start()
		p.slow.start()
		return "Start", api.OK, api.OK
	}
}

// unlike: what the two tell otherwise, or nothing.
func (p *pair) unlike() string {
	names := slices.Sorted(maps.Keys(p.slow.files))
	list, used, dirty := names, p.slow.used(), len(p.slow.line)
	if p.slow.off {
		list, used, dirty = nil, 0, 0
	}
	if p.disk.On() == p.slow.off || p.disk.Used() != used || p.disk.Dirty() != dirty || p.disk.Ops() != p.slow.ops {
		return fmt.Sprint("On, Used, Dirty, Ops: ", p.disk.On(), p.disk.Used(), p.disk.Dirty(), p.disk.Ops(), "; want ", !p.slow.off, used, dirty, p.slow.ops)
	}
	if got := p.disk.List(); !slices.Equal(got, list) {
		return fmt.Sprint("List: ", got, "; want ", list)
	}
	for _, name := range names {
		got, e := p.disk.Read(name)
		wanted, wantedError := p.slow.read(name), api.OK
		if p.slow.off {
			wanted, wantedError = nil, api.ErrPower
		}
		if !bytes.Equal(got, wanted) || e != wantedError {
			return fmt.Sprintf("Read(%s): %x, %v; want %x, %v", name, got, e, wanted, wantedError)
		}
	}
	return ""
}

// P3.1 to P3.4: whatever is done, in whatever order, the disk is as the document's words have it.
func TestAgainstSlowDisk(t *testing.T) {
	for seed := range 600 {
		s := &source{state: uint64(seed)}
		room := []int{0, 1, 3, 9, 20, 60, 1000}[seed%7]
		p := &pair{source: s, disk: disk.New(room), slow: &slowDisk{room: room, files: map[string]*slowFile{}}}
		p.names = []string{"a", "b", "log-1", "a", "b", "A"}
		if seed%5 == 0 {
			for i := range 60 {
				p.names = append(p.names, fmt.Sprint("f", i))
			}
		}
		p.sizes = []int{3, 20, 70}[s.below(3)]
		for i := range 400 {
			what, got, wanted := p.step()
			if got != wanted {
				t.Fatalf("seed %d, step %d, %s: %v, want %v", seed, i, what, got, wanted)
			}
			if u := p.unlike(); u != "" {
				t.Fatalf("seed %d, step %d, %s: %s", seed, i, what, u)
			}
		}
	}
}

// history: what was laid into a file since it was created, and how much of it a Sync made sure.
type history struct {
	bytes  []byte
	synced int
}

// holds: a file behind a crash has what was synced, and of the rest a beginning that ends where a sector ends, or where all did.
func (h *history) holds(got []byte) bool {
	whole := len(got)%16 == 0 || len(got) == h.synced || len(got) == len(h.bytes)
	return len(got) >= h.synced && bytes.HasPrefix(h.bytes, got) && whole
}

// P3.5: behind a failure of each operation of a long row, with each keep, nothing that was synced is lost.
func TestSyncedLasts(t *testing.T) {
	for seed := range 40 {
		for at := 1; at <= 30; at++ {
			lasts(t, uint64(seed), at)
		}
	}
}

func lasts(t *testing.T, seed uint64, at int) {
	t.Helper()
	s := &source{state: seed}
	d := disk.New(1000)
	files := map[string]*history{"a": {}, "b": {}, "c": {}}
	names := []string{"a", "b", "c"}
	for _, name := range names {
		must(t, d.Create(name))
	}
	keep := s.below(12) - 1
	must(t, d.Arm(at, keep))
	for d.On() {
		name := names[s.below(3)]
		h := files[name]
		if s.below(4) == 0 {
			if d.Sync(name) == api.OK {
				h.synced = len(h.bytes)
			}
			continue
		}
		b := s.bytes(s.below(40))
		d.Append(name, b)
		h.bytes = append(h.bytes, b...)
	}
	d.Start()
	for _, name := range names {
		if got, e := d.Read(name); e != api.OK || !files[name].holds(got) {
			t.Errorf("seed %d, failure at %d, keep %d: %s has %d bytes (%v) of %d, of which %d were synced", seed, at, keep, name, len(got), e, len(files[name].bytes), files[name].synced)
		}
	}
}

// P3.5: a file that is stored as the layers above do it is the old one or the new one, whichever operation fails.
func TestStoredByRename(t *testing.T) {
	before, behind := letters('a', 50), letters('k', 70)
	for at := 1; at <= 4; at++ {
		for keep := -1; keep <= 6; keep++ {
			d := disk.New(100)
			must(t, d.Create("m"))
			must(t, d.Append("m", before))
			must(t, d.Sync("m"))
			must(t, d.Arm(at, keep))
			errors := []api.Errno{d.Create("m.new"), d.Append("m.new", behind), d.Sync("m.new"), d.Rename("m.new", "m")}
			for i, e := range errors {
				wanted := api.OK
				if i >= at-1 {
					wanted = api.ErrPower
				}
				want(t, fmt.Sprintf("operation %d with a failure at %d", i+1, at), e, wanted)
			}
			d.Start()
			wantRead(t, d, "m", before)
			must(t, d.Create("m.new"))
			must(t, d.Append("m.new", behind))
			must(t, d.Sync("m.new"))
			must(t, d.Rename("m.new", "m"))
			d.Crash(0)
			d.Start()
			wantRead(t, d, "m", behind)
			wantList(t, d, "m")
		}
	}
}

// P3.4: many dirty sectors of one file, ahead in the line of many that were synced.
func TestManyDirtySectors(t *testing.T) {
	d := disk.New(mostRoom)
	must(t, d.Create("a"))
	must(t, d.Append("a", make([]byte, 1<<24)))
	must(t, d.Create("b"))
	for range 20000 {
		must(t, d.Append("b", letters('a', 20)))
		must(t, d.Sync("b"))
	}
	want(t, "Dirty", d.Dirty(), 1<<20)
	must(t, d.Append("b", make([]byte, 3)))
	d.Crash(1<<20 - 1)
	d.Start()
	got, e := d.Read("a")
	want(t, "Read", e, api.OK)
	want(t, "its bytes", len(got), 1<<24-16)
	want(t, "Used", d.Used(), 1<<20+25001)
}
