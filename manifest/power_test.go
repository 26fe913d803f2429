package manifest_test

import (
	"bytes"
	"math"
	"math/rand/v2"
	"slices"
	"testing"

	"skerry/api"
	"skerry/disk"
	"skerry/manifest"
)

// beginnings: disks as they may be ahead of a Store, each with what Load tells of it.
func beginnings(t *testing.T) map[string]func() (*disk.Disk, manifest.Manifest) {
	had := of(1000, 5, run(900, 929)...)
	left := slowBytes(of(77, 7, 7))
	stored := func() *disk.Disk {
		d := disk.New(1000)
		must(t, manifest.Store(d, had))
		return d
	}
	return map[string]func() (*disk.Disk, manifest.Manifest){
		"empty": func() (*disk.Disk, manifest.Manifest) { return disk.New(1000), manifest.Begin() },
		"empty, with a manifest.new": func() (*disk.Disk, manifest.Manifest) {
			d := disk.New(1000)
			lay(t, d, "manifest.new", left)
			return d, manifest.Begin()
		},
		"stored": func() (*disk.Disk, manifest.Manifest) { return stored(), had },
		"stored, with a manifest.new": func() (*disk.Disk, manifest.Manifest) {
			d := stored()
			lay(t, d, "manifest.new", left)
			return d, had
		},
		"stored, with a manifest.new that is dirty": func() (*disk.Disk, manifest.Manifest) {
			d := stored()
			must(t, d.Create("manifest.new"))
			must(t, d.Append("manifest.new", left))
			return d, had
		},
		"stored, with others that are dirty": func() (*disk.Disk, manifest.Manifest) {
			d := stored()
			must(t, d.Create("log-1"))
			must(t, d.Append("log-1", make([]byte, 40)))
			return d, had
		},
	}
}

// wantLeft: behind its first operation Store leaves a beginning of m in manifest.new, behind its third all of it.
func wantLeft(t *testing.T, d *disk.Disk, failing int, m manifest.Manifest) {
	t.Helper()
	b, _ := d.Read("manifest.new")
	switch {
	case failing == 4:
		wantFile(t, d, "manifest.new", slowBytes(m))
	case failing > 1 && !bytes.HasPrefix(slowBytes(m), b):
		t.Errorf("manifest.new behind a failure at %d: %x", failing, b)
	}
}

// P13.4: a failure at each operation, with each number of sectors kept.
func TestEachFailure(t *testing.T) {
	for name, begin := range beginnings(t) {
		for _, m := range goodOnes() {
			for failing := 1; failing <= 4; failing++ {
				for keep := -1; keep <= disk.Sectors(len(slowBytes(m)))+4; keep++ {
					d, had := begin()
					must(t, d.Arm(failing, keep))
					ops := d.Ops()
					want(t, name, manifest.Store(d, m), api.ErrPower)
					want(t, "Ops", d.Ops()-ops, failing)
					want(t, "On", d.On(), false)
					wantNoLoad(t, d, api.ErrPower)
					want(t, "Store without power", manifest.Store(d, m), api.ErrPower)
					d.Start()
					wantLoad(t, d, had)
					wantLeft(t, d, failing, m)
					must(t, manifest.Store(d, m))
					wantLoad(t, d, m)
					want(t, "manifest.new is left", slices.Contains(d.List(), "manifest.new"), false)
					d.Crash(0)
					d.Start()
					wantLoad(t, d, m)
				}
			}
		}
	}
}

// P13.4: of a manifest of more than one sector some are kept, and it is not told for all that.
func TestPartsAreLeft(t *testing.T) {
	m := of(top, top, run(top-30, top-1)...)
	b := slowBytes(m)
	for _, failing := range []int{2, 3} {
		for keep := range disk.Sectors(len(b)) + 1 {
			d := disk.New(1000)
			must(t, d.Arm(failing, keep))
			want(t, "Store", manifest.Store(d, m), api.ErrPower)
			d.Start()
			wantFile(t, d, "manifest.new", b[:min(len(b), 16*keep)])
			wantList(t, d, "manifest.new")
			wantLoad(t, d, manifest.Begin())
		}
	}
}

// P13.4: a failure behind the last operation is none of Store's: what it stored is sure.
func TestFailureBehind(t *testing.T) {
	for name, begin := range beginnings(t) {
		for keep := -1; keep < 4; keep++ {
			d, _ := begin()
			must(t, d.Arm(5, keep))
			want(t, name, manifest.Store(d, of(4, 6, 3)), api.OK)
			want(t, "Create", d.Create("more"), api.ErrPower)
			d.Start()
			wantLoad(t, d, of(4, 6, 3))
		}
	}
}

// P13.4: a rotten manifest is as rotten behind a failure, and is mended by the next Store.
func TestFailureOverRottenFile(t *testing.T) {
	for _, b := range rotten() {
		for failing := 1; failing <= 4; failing++ {
			for keep := range 3 {
				d := disk.New(1000)
				lay(t, d, "manifest", b)
				must(t, d.Arm(failing, keep))
				want(t, "Store", manifest.Store(d, of(4, 6, 3)), api.ErrPower)
				d.Start()
				wantNoLoad(t, d, api.ErrCorrupt)
				wantFile(t, d, "manifest", b)
				must(t, manifest.Store(d, of(4, 6, 3)))
				wantLoad(t, d, of(4, 6, 3))
			}
		}
	}
}

// P13.4: two failures, one behind the other, of unlike manifests.
func TestTwoFailures(t *testing.T) {
	first, second := of(1000, 5, run(900, 929)...), of(4, 6, 3)
	for name, begin := range beginnings(t) {
		for failing := 1; failing <= 16; failing++ {
			for keeps := range 9 * 4 {
				d, had := begin()
				must(t, d.Arm(1+failing%4, keeps%9))
				want(t, name, manifest.Store(d, first), api.ErrPower)
				d.Start()
				must(t, d.Arm(1+failing/4%4, keeps/9))
				want(t, name, manifest.Store(d, second), api.ErrPower)
				d.Start()
				wantLoad(t, d, had)
				must(t, manifest.Store(d, second))
				wantLoad(t, d, second)
			}
		}
	}
}

// P13.4: no room and no power: the first of them that comes counts.
func TestFailureWithLittleRoom(t *testing.T) {
	m := of(1000, 5, run(900, 929)...)
	d := disk.New(1)
	must(t, d.Arm(2, 0))
	want(t, "Store with room for a head", manifest.Store(d, m), api.ErrFull)
	want(t, "On", d.On(), true)
	wantList(t, d, "manifest.new")
	want(t, "Store", manifest.Store(d, m), api.ErrPower)
	d.Start()
	wantLoad(t, d, manifest.Begin())

	d = disk.New(0)
	must(t, d.Arm(1, 0))
	want(t, "Store without room", manifest.Store(d, m), api.ErrFull)
	want(t, "On", d.On(), true)
	want(t, "Ops", d.Ops(), 0)
}

// enough: is there room for m beside the manifest that is there, on a disk that has nothing else?
func enough(d *disk.Disk, room int, m manifest.Manifest) bool {
	used := 0
	if b, e := d.Read("manifest"); e == api.OK {
		used = 1 + disk.Sectors(len(b))
	}
	return room >= used+1+disk.Sectors(len(slowBytes(m)))
}

// P13.3, P13.4: many calls on a small disk, whose power fails at any operation, or between them.
func TestManyFailures(t *testing.T) {
	var answers [10]int
	for seed := range uint64(60) {
		r := rand.New(rand.NewPCG(13, seed))
		room := r.IntN(30)
		d := disk.New(room)
		now := manifest.Begin()
		for range 300 {
			m := some(r)
			if r.IntN(3) == 0 {
				must(t, d.Arm(r.IntN(7), r.IntN(12)-1))
			}
			roomy := enough(d, room, m)
			e := manifest.Store(d, m)
			answers[e]++
			switch {
			case e == api.OK && roomy:
				now = m
			case e == api.ErrPower:
				wantNoLoad(t, d, api.ErrPower)
				d.Start()
			case e != api.ErrFull || roomy:
				t.Fatalf("Store: %v, though there is room: %v", e, roomy)
			}
			wantLoad(t, d, now)
			if r.IntN(10) == 0 {
				d.Crash(r.IntN(5))
				d.Start()
				wantLoad(t, d, now)
			}
		}
	}
	if min(answers[api.OK], answers[api.ErrPower], answers[api.ErrFull]) < 1000 {
		t.Errorf("answers: %v", answers)
	}
}

// P13.4: Arm at numbers that no operation of Store reaches.
func TestFailureFarAway(t *testing.T) {
	for _, n := range []int{0, 5, 6, 1000, math.MaxInt} {
		d := disk.New(1000)
		must(t, d.Arm(n, 0))
		must(t, manifest.Store(d, of(4, 6, 3)))
		wantLoad(t, d, of(4, 6, 3))
		want(t, "On", d.On(), true)
	}
}
