package wal_test

import (
	"maps"
	"math"
	"math/rand/v2"
	"slices"
	"testing"

	"skerry/api"
	"skerry/disk"
	"skerry/wal"
)

const modelRoom = 60

// model is a slow log: the records of each segment on the disk, and what it is in doubt of behind a failure.
type model struct {
	t       *testing.T
	source  *rand.Rand
	disk    *disk.Disk
	log     *wal.Log
	records map[int][][]api.Cell
	last    int
	dead    bool
	doubt   story
	from    int // it never falls: what an Open left torn below it would be corrupt for another one
	next    int // the number of the next cell
}

func (m *model) numbers() []int { return slices.Sorted(maps.Keys(m.records)) }

func (m *model) free() int { return modelRoom - m.disk.Used() }

func (m *model) want(what string, got, want api.Errno) {
	m.t.Helper()
	if got != want {
		m.t.Fatalf("%s: %v, want %v", what, got, want)
	}
}

// failed: the power went in a call that had no other error; nobody needs to know at which of its operations.
func (m *model) failed(e api.Errno) bool {
	if e == api.ErrPower && !m.dead && !m.disk.On() {
		m.dead = true
		return true
	}
	return false
}

func (m *model) append() {
	cells := cellsOf(m.next, m.source.IntN(6))
	m.next += len(cells)
	bad := len(cells) == 0
	if m.source.IntN(10) == 0 {
		cells, bad = append(cells, api.Cell{}), true
	}
	record, _ := wal.Record(cells)
	file, _ := m.disk.Read(wal.Name(m.last))
	full := disk.Sectors(len(file)+len(record))-disk.Sectors(len(file)) > m.free()
	e := m.log.Append(cells)
	switch {
	case m.dead:
		m.want("Append of a dead log", e, api.ErrPower)
	case bad:
		m.want("Append of bad cells", e, api.ErrArg)
	case full:
		m.want("Append to a full disk", e, api.ErrFull)
	case m.failed(e):
		m.doubt.cut = cells
	default:
		m.want("Append", e, api.OK)
		m.records[m.last] = append(m.records[m.last], cells)
	}
}

func (m *model) roll() {
	full := m.free() < 1 || len(m.disk.List()) >= api.MaxFiles
	n, e := m.log.Roll()
	switch {
	case m.dead:
		m.want("Roll of a dead log", e, api.ErrPower)
	case full:
		m.want("Roll of a full disk", e, api.ErrFull)
	case m.failed(e):
	default:
		m.want("Roll", e, api.OK)
		m.last++
		m.records[m.last] = nil
		if n == m.last {
			return
		}
	}
	if n != 0 {
		m.t.Fatalf("Roll: %d", n)
	}
}

func (m *model) retire() {
	until := m.last + m.source.IntN(6) - 4
	below := slices.DeleteFunc(m.numbers(), func(n int) bool { return n >= until || n == m.last })
	e := m.log.Retire(until)
	switch {
	case m.dead:
		m.want("Retire of a dead log", e, api.ErrPower)
	case m.failed(e):
		m.doubt.retired = below
	default:
		m.want("Retire", e, api.OK)
		for _, n := range below {
			delete(m.records, n)
		}
	}
}

// restart: the power comes, and may go again within each Open, till one succeeds.
func (m *model) restart() {
	m.disk.Start()
	if m.source.IntN(4) == 0 {
		m.from = max(m.from, m.last+m.source.IntN(6)-3)
	}
	for {
		m.disk.Arm(m.source.IntN(8), m.source.IntN(5))
		l, told, e := wal.Open(m.disk, m.from)
		m.disk.Start()
		switch e {
		case api.ErrPower:
		case api.ErrFull:
			m.makeRoom()
		default:
			m.want("Open", e, api.OK)
			m.taken(l, told)
			return
		}
	}
}

// taken: what was told is what there is, and the new log goes on with that.
func (m *model) taken(l *wal.Log, told [][]api.Cell) {
	m.doubt.sure = maps.Clone(m.records)
	maps.DeleteFunc(m.doubt.sure, func(n int, _ [][]api.Cell) bool { return n < m.from })
	wantOneOf(m.t, told, m.doubt.may())
	m.log, m.dead, m.doubt, m.last = l, false, story{}, l.Last()
	m.adopt()
}

// makeRoom: a full disk cannot be opened till somebody else takes something away; here that is the least segment.
func (m *model) makeRoom() {
	for _, n := range m.numbers() {
		if m.disk.Remove(wal.Name(n)) == api.OK {
			delete(m.records, n)
			return
		}
	}
	m.t.Fatalf("no room: %v", m.disk.List())
}

// adopt: what the segments have now, doubts having gone; all of it is what was told, or what Append answered OK.
func (m *model) adopt() {
	next := map[int][][]api.Cell{}
	for _, n := range m.log.Segments() {
		b, _ := m.disk.Read(wal.Name(n))
		records, _ := wal.Scan(b)
		next[n] = records
		for i, sure := range m.records[n] {
			if i >= len(records) || !slices.Equal(records[i], sure) {
				m.t.Fatalf("segment %d has %v, want %v", n, records, m.records[n])
			}
		}
	}
	m.records = next
}

func (m *model) step() {
	if !m.disk.On() {
		m.restart()
		return
	}
	switch m.source.IntN(20) {
	case 0:
		m.disk.Arm(1+m.source.IntN(6), m.source.IntN(6))
	case 1:
		m.disk.Crash(m.source.IntN(3))
		if m.source.IntN(2) == 0 {
			m.disk.Start()
		}
	case 2, 3:
		m.retire()
	case 4, 5, 6:
		m.roll()
	case 7:
		if m.dead {
			m.restart()
		}
	default:
		m.append()
	}
	if !m.disk.On() {
		return
	}
	if m.log.Last() != m.last {
		m.t.Fatalf("Last: %d, want %d", m.log.Last(), m.last)
	}
	if got := m.log.Segments(); !m.dead && !slices.Equal(got, m.numbers()) {
		m.t.Fatalf("Segments: %v, want %v", got, m.numbers())
	}
}

// P7.2, P7.3, P7.4: random calls and failures, on a disk that is often full.
func TestAgainstModel(t *testing.T) {
	for seed := range uint64(150) {
		m := &model{t: t, source: rand.New(rand.NewPCG(seed, 7)), disk: disk.New(modelRoom), records: map[int][][]api.Cell{1: nil}, last: 1, from: 1, next: 1}
		m.log = open(t, m.disk, 1)
		for range 300 {
			m.step()
		}
		if t.Failed() {
			t.Fatalf("seed %d", seed)
		}
		m.disk.Crash(0)
		m.restart()
		must(t, m.log.Retire(math.MaxInt))
		wantLog(t, m.log, m.last, m.last)
	}
}
