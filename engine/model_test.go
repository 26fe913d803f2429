package engine_test

import (
	"fmt"
	"math/rand/v2"
	"slices"
	"testing"

	"skerry/api"
	"skerry/cell"
	"skerry/disk"
	"skerry/engine"
	"skerry/manifest"
	"skerry/purge"
	"skerry/table"
	"skerry/tiers"
	"skerry/wal"
)

// slow is an engine that keeps lists alone, and does step by step what the chapter says.
type slow struct {
	*disk.Disk
	m           manifest.Manifest
	tables      [][]api.Cell
	log         *wal.Log
	put         []api.Cell
	flush, tier int
	dead        bool
}

func openSlow(d *disk.Disk, flush, tier int) (*slow, api.Errno) {
	s := &slow{Disk: d, flush: flush, tier: tier}
	var errno api.Errno
	if s.m, errno = manifest.Load(d); errno != api.OK {
		return nil, errno
	}
	for _, n := range s.m.Tables {
		b, _ := d.Read(manifest.File(n))
		t, errno := table.Open(b)
		if errno != api.OK {
			return nil, api.ErrCorrupt
		}
		s.tables = append(s.tables, t.All())
	}
	log, records, errno := wal.Open(d, s.m.From)
	if errno != api.OK {
		return nil, errno
	}
	s.log, s.put = log, slices.Concat(records...)
	return s, api.OK
}

// ends: the first error of steps, one behind the other; behind ErrPower it is dead.
func (s *slow) ends(steps ...func() api.Errno) api.Errno {
	for _, step := range steps {
		if errno := step(); errno != api.OK {
			s.dead = s.dead || errno == api.ErrPower
			return errno
		}
	}
	return api.OK
}

func (s *slow) power() api.Errno {
	if s.dead || !s.On() {
		return api.ErrPower
	}
	return api.OK
}

func (s *slow) memory() []api.Cell { return cell.Norm(s.put) }

func (s *slow) apply(l []api.Cell) api.Errno {
	errno := s.ends(s.power, func() api.Errno { return s.log.Append(l) })
	if errno != api.OK {
		return errno
	}
	s.put = append(s.put, l...)
	if len(s.memory()) >= s.flush && s.flushed() == api.ErrPower {
		return api.ErrPower
	}
	return api.OK
}

func (s *slow) flushed() api.Errno {
	if errno := s.ends(s.power); errno != api.OK || len(s.put) == 0 {
		return errno
	}
	if len(s.tables) == 30 {
		return api.ErrFull
	}
	next, segment := s.m, 0
	next.Tables, next.Next = append(slices.Clone(s.m.Tables), s.m.Next), s.m.Next+1
	errno := s.ends(
		func() api.Errno { return s.write(s.memory()) },
		func() (errno api.Errno) { segment, errno = s.log.Roll(); return errno },
		func() api.Errno { next.From = segment; return manifest.Store(s.Disk, next) },
	)
	if errno != api.OK {
		return errno
	}
	s.m, s.tables, s.put = next, append(s.tables, s.memory()), nil
	if s.ends(func() api.Errno { return s.log.Retire(segment) }) == api.ErrPower {
		return api.ErrPower
	}
	return api.OK
}

func (s *slow) write(cells []api.Cell) api.Errno {
	name := manifest.File(s.m.Next)
	b, errno := table.Write(cells)
	if errno != api.OK {
		return api.ErrFull
	}
	return s.ends(
		func() api.Errno { return s.Create(name) },
		func() api.Errno { return s.Append(name, b) },
		func() api.Errno { return s.Sync(name) },
	)
}

func (s *slow) compact(now, grace int) (bool, api.Errno) {
	if errno := s.ends(s.power); errno != api.OK {
		return false, errno
	}
	var sizes []int
	for _, l := range s.tables {
		sizes = append(sizes, len(l))
	}
	chosen := tiers.Choose(sizes, s.tier)
	if len(chosen) == 0 {
		return false, api.OK
	}
	next := manifest.Manifest{Next: s.m.Next + 1, From: s.m.From}
	var merged []api.Cell
	var gone []int
	var stay [][]api.Cell
	var filters []*table.Table
	for i, l := range s.tables {
		if slices.Contains(chosen, i) {
			merged, gone = append(merged, l...), append(gone, s.m.Tables[i])
			continue
		}
		b, _ := table.Write(l)
		filter, _ := table.Open(b)
		next.Tables, stay, filters = append(next.Tables, s.m.Tables[i]), append(stay, l), append(filters, filter)
	}
	left := purge.Table(cell.Norm(merged), filters, s.memory(), now, grace)
	if len(left) > 0 {
		if errno := s.write(left); errno != api.OK {
			return false, errno
		}
		next.Tables, stay = append(next.Tables, s.m.Next), append(stay, left)
	}
	if errno := s.ends(func() api.Errno { return manifest.Store(s.Disk, next) }); errno != api.OK {
		return false, errno
	}
	s.m, s.tables = next, stay
	for _, n := range gone {
		if s.ends(func() api.Errno { return s.Remove(manifest.File(n)) }) == api.ErrPower {
			return false, api.ErrPower
		}
	}
	return true, api.OK
}

func (s *slow) view() string {
	var sizes []int
	for _, l := range s.tables {
		sizes = append(sizes, len(l))
	}
	cells := cell.Norm(slices.Concat(slices.Concat(s.tables...), s.put))
	part := func(table string) []api.Cell {
		return slices.DeleteFunc(slices.Clone(cells), func(c api.Cell) bool { return c.Key.Table != table || c.Key.Part != "p" })
	}
	return fmt.Sprint(cells, s.memory(), s.m.Tables, sizes, part("t"), part("u"))
}

// pair is an engine and a slow one, each on a disk of its own, to which the same is done.
type pair struct {
	t           *testing.T
	source      *rand.Rand
	e           *engine.Engine
	s           *slow
	disks       [2]*disk.Disk
	flush, tier int
	clock       int
	sure        []api.Cell             // the Norm of all that Apply answered OK, without what Compact purged
	doubt       []api.Cell             // of an Apply that the power cut off
	old         func(api.Version) bool // may a Compact that failed have purged it?
	answers     map[string]int
}

func (p *pair) same(what string, got, wanted any) {
	p.t.Helper()
	if a, b := fmt.Sprint(got), fmt.Sprint(wanted); a != b {
		p.t.Fatalf("%s: %s; want %s", what, a, b)
	}
}

func (p *pair) both(do func(*disk.Disk)) {
	do(p.disks[0])
	do(p.disks[1])
}

func (p *pair) cells() []api.Cell {
	l := make([]api.Cell, p.source.IntN(5))
	for i := range l {
		l[i] = live(p.source.IntN(25), p.source.IntN(50))
		if p.source.IntN(2) == 0 {
			l[i] = dead(p.source.IntN(25), p.source.IntN(50), p.clock+p.source.IntN(3)-2)
		}
		if p.source.IntN(4) == 0 {
			l[i].Key.Table = "u"
		}
	}
	if p.source.IntN(20) == 0 {
		l = append(l, api.Cell{})
	}
	return l
}

func (p *pair) apply() {
	l, alive := p.cells(), p.s.power() == api.OK
	got, wanted := p.e.Apply(l), p.s.apply(l)
	p.same("Apply", got, wanted)
	p.answers["Apply "+got.Error()]++
	switch {
	case got == api.OK:
		p.sure = cell.Norm(slices.Concat(p.sure, l))
	case got == api.ErrPower && alive:
		p.doubt = l
	}
}

func (p *pair) flushes() {
	before := p.e.All()
	got, wanted := p.e.Flush(), p.s.flushed()
	p.same("Flush", got, wanted)
	p.answers["Flush "+got.Error()]++
	p.same("All behind Flush", p.e.All(), before)
}

func (p *pair) compact() {
	now, grace := p.clock, p.source.IntN(4)-1
	if p.s.power() == api.OK {
		p.old = func(v api.Version) bool { return purge.Old(v, now, grace) }
	}
	before := p.e.All()
	done, got := p.e.Compact(now, grace)
	alsoDone, wanted := p.s.compact(now, grace)
	p.same("Compact", fmt.Sprint(done, got), fmt.Sprint(alsoDone, wanted))
	p.answers[fmt.Sprintf("Compact %v %v", done, got)]++
	p.lets(before, p.e.All())
	if got == api.OK {
		p.sure, p.old = p.e.All(), never
	}
}

// lets: of the cells nothing went but old deletions, and nothing came.
func (p *pair) lets(before, behind []api.Cell) {
	p.t.Helper()
	for _, c := range before {
		v, there := cell.Find(behind, c.Key)
		if there && v != c.Version || !there && !p.old(c.Version) {
			p.t.Fatalf("%v: %v, %v behind it", c, v, there)
		}
	}
	if len(behind) > len(before) {
		p.t.Fatalf("%v came to %v", behind, before)
	}
}

// restart: the power may go again within each Open, till one succeeds; false: a disk is so full that none does.
func (p *pair) restart() bool {
	p.both((*disk.Disk).Start)
	for full := 0; full < 9; {
		n, keep := p.source.IntN(9), p.source.IntN(9)-1
		p.both(func(d *disk.Disk) { d.Arm(n, keep) })
		e, got := engine.Open(p.disks[0], []int{2, 1, 3}, p.flush, p.tier)
		s, wanted := openSlow(p.disks[1], p.flush, p.tier)
		p.same("Open", got, wanted)
		p.answers["Open "+got.Error()]++
		p.both((*disk.Disk).Start)
		switch got {
		case api.OK:
			p.e, p.s = e, s
			p.recovered()
			return true
		case api.ErrFull:
			full++
			p.both(func(d *disk.Disk) { d.Remove("rest") })
			p.makeRoom()
		}
	}
	return false
}

// makeRoom: files that no manifest names, and segments that it does not count, are taken away by somebody else.
func (p *pair) makeRoom() {
	m, _ := manifest.Load(p.disks[0])
	p.both(func(d *disk.Disk) {
		for n := 1; n <= m.Next; n++ {
			if !slices.Contains(m.Tables, n) {
				d.Remove(manifest.File(n))
			}
		}
		for _, name := range d.List() {
			if n, ok := wal.Number(name); ok && n < m.From {
				d.Remove(name)
			}
		}
	})
}

// recovered: all that is sure is there, or was purged by the Compact that failed; of what is in doubt each cell may be.
func (p *pair) recovered() {
	got := p.e.All()
	for _, c := range got {
		if v, there := cell.Find(p.sure, c.Key); there && v == c.Version || slices.Contains(p.doubt, c) {
			continue
		}
		p.t.Fatalf("%v is there; sure was %v, in doubt %v", c, p.sure, p.doubt)
	}
	for _, c := range p.sure {
		v, there := cell.Find(got, c.Key)
		if there && cell.Cmp(v, c.Version) < 0 || !there && !p.old(c.Version) {
			p.t.Fatalf("%v was sure: %v, %v", c, v, there)
		}
	}
	p.sure, p.doubt, p.old = got, nil, never
}

func never(api.Version) bool { return false }

// step: false, if the pair can do no more.
func (p *pair) step() bool {
	if !p.disks[0].On() && p.source.IntN(3) > 0 || p.source.IntN(24) == 0 {
		return p.restart()
	}
	switch p.source.IntN(24) {
	case 0:
		n, keep := 1+p.source.IntN(12), p.source.IntN(9)-1
		p.both(func(d *disk.Disk) { d.Arm(n, keep) })
	case 1:
		p.both(func(d *disk.Disk) { d.Crash(0) })
	case 2, 3:
		sectors := p.source.IntN(60)
		p.both(func(d *disk.Disk) { d.Create("rest"); d.Append("rest", make([]byte, 16*sectors)) })
	case 4:
		p.both(func(d *disk.Disk) { d.Remove("rest") })
	case 5, 6:
		p.flushes()
	case 7, 8, 9:
		p.compact()
	case 10:
		p.clock++
	default:
		p.apply()
	}
	p.same("what is told", view(p.e), p.s.view())
	p.same("the disk", all(p.disks[0]), all(p.disks[1]))
	return true
}

// P14.1 to P14.7: random calls and failures on small disks, against the slow engine, and against all that Apply answered OK.
func TestAgainstModel(t *testing.T) {
	answers := map[string]int{}
	for seed := range uint64(35) {
		p := &pair{t: t, source: rand.New(rand.NewPCG(14, seed)), old: never, answers: answers}
		p.flush, p.tier = 1+p.source.IntN(8), 2+p.source.IntN(4)
		room := 60 + p.source.IntN(200)
		p.disks = [2]*disk.Disk{disk.New(room), disk.New(room)}
		going := p.restart()
		for steps := 0; going && steps < 250; steps++ {
			going = p.step()
		}
	}
	for _, kind := range []string{
		"Open ok", "Open power", "Open full", "Apply ok", "Apply arg", "Apply full", "Apply power",
		"Flush ok", "Flush full", "Flush power", "Compact false ok", "Compact true ok", "Compact false full", "Compact false power",
	} {
		if answers[kind] < 20 {
			t.Errorf("%s: %d times", kind, answers[kind])
		}
	}
}
