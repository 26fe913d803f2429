package wal_test

import (
	"bytes"
	"encoding/binary"
	"hash/crc32"
	"math"
	"math/rand/v2"
	"slices"
	"strings"
	"testing"

	"skerry/api"
	"skerry/cell"
	"skerry/codec"
	"skerry/wal"
)

// cellOf: a good one, unlike those of other numbers.
func cellOf(n int) api.Cell {
	return api.Cell{Key: api.Key{Table: "t", Part: "p", Row: n, Column: "c"}, Version: api.Version{Time: n, Value: api.Value{Kind: api.Int, N: n}}}
}

// cellsOf: so many of them, from a number on.
func cellsOf(from, count int) []api.Cell {
	l := make([]api.Cell, count)
	for i := range l {
		l[i] = cellOf(from + i)
	}
	return l
}

// widest: a good cell of as many bytes as may be.
func widest() api.Cell {
	name, text := strings.Repeat("a", api.MaxName), strings.Repeat("\xff", api.MaxText)
	return api.Cell{
		Key:     api.Key{Table: name, Part: text, Row: math.MinInt, Column: name},
		Version: api.Version{Time: math.MinInt, Value: api.Value{Kind: api.Str, S: text}},
	}
}

// badCells: one for each way not to be good.
func badCells() []api.Cell {
	change := func(f func(c *api.Cell)) api.Cell {
		c := cellOf(1)
		f(&c)
		return c
	}
	return []api.Cell{
		{},
		change(func(c *api.Cell) { c.Key.Table = "" }),
		change(func(c *api.Cell) { c.Key.Table = "T" }),
		change(func(c *api.Cell) { c.Key.Table = strings.Repeat("a", api.MaxName+1) }),
		change(func(c *api.Cell) { c.Key.Part = "" }),
		change(func(c *api.Cell) { c.Key.Part = strings.Repeat("a", api.MaxText+1) }),
		change(func(c *api.Cell) { c.Key.Column = "9" }),
		change(func(c *api.Cell) { c.Key.Column = "" }),
		change(func(c *api.Cell) { c.Version.Local = 1 }),
		change(func(c *api.Cell) { c.Version.Dead = true }),
		change(func(c *api.Cell) { c.Version.Value.S = "s" }),
		change(func(c *api.Cell) { c.Version.Value.Kind = api.None }),
		change(func(c *api.Cell) { c.Version.Value.Kind = api.Str }),
		change(func(c *api.Cell) { c.Version.Value.Kind = 3 }),
		change(func(c *api.Cell) { c.Version.Value.Kind = -1 }),
		change(func(c *api.Cell) {
			c.Version.Value = api.Value{Kind: api.Str, S: strings.Repeat("a", api.MaxText+1)}
		}),
		change(func(c *api.Cell) { c.Version.Value = api.Value{} }),
	}
}

// anyCell: a good one of each kind that there is.
func anyCell(source *rand.Rand) api.Cell {
	c := cellOf(int(source.Uint64()))
	c.Key.Part = strings.Repeat("\x00", 1+source.IntN(api.MaxText))
	switch source.IntN(4) {
	case 0:
		c.Version = api.Version{Time: source.Int(), Dead: true, Local: int(source.Uint64())}
	case 1:
		c.Version.Value = api.Value{Kind: api.Str, S: strings.Repeat("s", source.IntN(api.MaxText+1))}
	case 2:
		c.Key.Column, c.Version.Value = "", api.Value{}
	}
	return c
}

func anyCells(source *rand.Rand, most int) []api.Cell {
	l := make([]api.Cell, 1+source.IntN(most))
	for i := range l {
		l[i] = anyCell(source)
	}
	return l
}

func recordOf(t *testing.T, l []api.Cell) []byte {
	t.Helper()
	b, e := wal.Record(l)
	if e != api.OK || len(b) == 0 {
		t.Fatalf("Record of %d cells: %d bytes, %v", len(l), len(b), e)
	}
	return b
}

func wantRefused(t *testing.T, what string, l []api.Cell, want api.Errno) {
	t.Helper()
	if b, e := wal.Record(l); len(b) != 0 || e != want {
		t.Errorf("Record of %s: %d bytes, %v, want none, %v", what, len(b), e, want)
	}
}

func sameRecords(a, b [][]api.Cell) bool {
	return slices.EqualFunc(a, b, slices.Equal[[]api.Cell])
}

func wantScan(t *testing.T, what string, b []byte, want [][]api.Cell, size int) {
	t.Helper()
	if got, n := wal.Scan(b); !sameRecords(got, want) || n != size {
		t.Errorf("Scan of %s: %d records, %d bytes, want %d, %d\n%v\n%v", what, len(got), n, len(want), size, got, want)
	}
}

// P7.1: the bytes of one record, by hand.
func TestRecordBytes(t *testing.T) {
	mark := api.Cell{Key: api.Key{Table: "t", Part: "xy", Row: -1}, Version: api.Version{Time: 2}}
	gone := api.Cell{Key: api.Key{Table: "t", Part: "x", Row: 1, Column: "c"}, Version: api.Version{Time: 1, Dead: true, Local: 3}}
	content := []byte{2, 1, 't', 2, 'x', 'y', 1, 0, 4, 0, 0, 0, 0, 1, 't', 1, 'x', 2, 1, 'c', 2, 1, 6}
	count := []byte{0, 0, 0, byte(len(content))}
	want := binary.BigEndian.AppendUint32(bytes.Clone(count), crc32.ChecksumIEEE(append(bytes.Clone(count), content...)))
	want = append(want, content...)
	if got := recordOf(t, []api.Cell{mark, gone}); !bytes.Equal(got, want) {
		t.Errorf("Record: %v, want %v", got, want)
	}
	wantScan(t, "these bytes", want, [][]api.Cell{{mark, gone}}, len(want))
}

// P7.1: none, one, as many as may be, and more; more are ErrArg, also where they are more than a frame takes.
func TestRecordCounts(t *testing.T) {
	wantRefused(t, "nil", nil, api.ErrArg)
	wantRefused(t, "nothing", []api.Cell{}, api.ErrArg)
	for _, n := range []int{1, 2, api.MaxCells - 1, api.MaxCells} {
		l := cellsOf(1, n)
		b := recordOf(t, l)
		if !bytes.Equal(b, codec.Frame(codec.Cells(l))) {
			t.Errorf("Record of %d cells is not their frame", n)
		}
		wantScan(t, "a record", b, [][]api.Cell{l}, len(b))
	}
	for _, n := range []int{api.MaxCells + 1, api.MaxCells + 2, 10 * api.MaxCells} {
		wantRefused(t, "too many cells", cellsOf(1, n), api.ErrArg)
		wide := slices.Repeat([]api.Cell{widest()}, n)
		wantRefused(t, "too many wide cells", wide, api.ErrArg)
	}
	if b := codec.Cells(slices.Repeat([]api.Cell{widest()}, 10*api.MaxCells)); len(b) <= api.MaxFrame {
		t.Errorf("wide cells of %d bytes are not more than a frame takes", len(b))
	}
}

// P7.1: the widest record that may be is not more than a frame takes.
func TestRecordWidest(t *testing.T) {
	l := slices.Repeat([]api.Cell{widest()}, api.MaxCells)
	b := recordOf(t, l)
	if len(b) > api.MaxFrame {
		t.Errorf("%d bytes", len(b))
	}
	wantScan(t, "it", b, [][]api.Cell{l}, len(b))
}

// P7.1: one cell that is not good is enough, wherever it stands.
func TestRecordOfBadCells(t *testing.T) {
	for _, bad := range badCells() {
		if cell.Good(bad) {
			t.Fatalf("%#v is good", bad)
		}
		wantRefused(t, "a bad cell", []api.Cell{bad}, api.ErrArg)
		for _, n := range []int{2, 3, api.MaxCells} {
			for _, at := range []int{0, n / 2, n - 1} {
				l := cellsOf(1, n)
				l[at] = bad
				wantRefused(t, "a bad cell among others", l, api.ErrArg)
			}
		}
	}
	wantRefused(t, "a bad cell behind as many as may be", append(cellsOf(1, api.MaxCells), api.Cell{}), api.ErrArg)
}

// P7.1: cells are neither sorted nor joined.
func TestRecordKeepsOrder(t *testing.T) {
	l := []api.Cell{cellOf(3), cellOf(1), cellOf(3), cellOf(2), cellOf(1)}
	b := recordOf(t, l)
	wantScan(t, "a record", b, [][]api.Cell{l}, len(b))
}

// P7.1: Scan undoes Record, record by record.
func TestScanUndoesRecord(t *testing.T) {
	source := rand.New(rand.NewPCG(2, 0))
	for range 200 {
		var b []byte
		var want [][]api.Cell
		for range source.IntN(6) {
			l := anyCells(source, 12)
			record := recordOf(t, l)
			if !bytes.Equal(record, codec.Frame(codec.Cells(l))) {
				t.Fatalf("Record of %#v is not the frame of its cells", l)
			}
			b, want = append(b, record...), append(want, l)
		}
		wantScan(t, "records", b, want, len(b))
	}
}

// P7.1: bytes that end within a record tell those ahead of it.
func TestScanOfBeginnings(t *testing.T) {
	want := [][]api.Cell{cellsOf(1, 1), cellsOf(2, 3), cellsOf(5, 2)}
	var b []byte
	ends := []int{0}
	for _, l := range want {
		b = append(b, recordOf(t, l)...)
		ends = append(ends, len(b))
	}
	whole := 0
	for n := range len(b) + 1 {
		if n > 0 && slices.Contains(ends, n) {
			whole++
		}
		wantScan(t, "a beginning", b[:n], want[:whole], ends[whole])
	}
	wantScan(t, "nil", nil, nil, 0)
	wantScan(t, "nothing", []byte{}, nil, 0)
}

// P7.1: a bit that is turned ends what is told, whatever stands behind.
func TestScanOfTurnedBits(t *testing.T) {
	one, two := cellsOf(1, 2), cellsOf(3, 1)
	first, second := recordOf(t, one), recordOf(t, two)
	b := slices.Concat(first, second, first)
	for at := range len(first) + len(second) {
		for bit := range 8 {
			turned := bytes.Clone(b)
			turned[at] ^= 1 << bit
			if at < len(first) {
				wantScan(t, "a first record that is spoiled", turned, nil, 0)
			} else {
				wantScan(t, "a second record that is spoiled", turned, [][]api.Cell{one}, len(first))
			}
		}
	}
}

// strange: frames without a fault of their own whose content is no record's.
func strange() map[string][]byte {
	good := codec.Cells(cellsOf(1, 2))
	longer := append([]byte{130, 0}, good[1:]...)
	frames := map[string][]byte{
		"an empty frame":               codec.Frame(nil),
		"no cells":                     codec.Frame(codec.Cells(nil)),
		"too many cells":               codec.Frame(codec.Cells(cellsOf(1, api.MaxCells+1))),
		"many more cells":              codec.Frame(codec.Cells(cellsOf(1, 10*api.MaxCells))),
		"cells and a byte":             codec.Frame(append(bytes.Clone(good), 0)),
		"cells but a byte":             codec.Frame(good[:len(good)-1]),
		"a greater count":              codec.Frame(append([]byte{3}, good[1:]...)),
		"a lesser count":               codec.Frame(append([]byte{1}, good[1:]...)),
		"a count of two bytes":         codec.Frame(longer),
		"a count of 64 bits":           codec.Frame(bytes.Repeat([]byte{255}, 9)),
		"a text":                       codec.Frame([]byte("hello, world")),
		"a frame in a frame":           codec.Frame(codec.Frame(good)),
		"a frame of as much as it may": codec.Frame(make([]byte, api.MaxFrame)),
	}
	for _, bad := range badCells() {
		// What a bad version has too much is not written, so that some come back as good ones.
		if l, e := codec.ReadCells(codec.Cells([]api.Cell{bad})); e == api.OK && !cell.Good(l[0]) {
			frames["a bad cell "+strings.ReplaceAll(string(codec.Cells(l)), "\x00", ".")] = codec.Frame(codec.Cells([]api.Cell{cellOf(1), bad}))
		}
	}
	return frames
}

// P7.1: such frames end what is told, at the beginning and behind records, whatever stands behind them.
func TestScanOfStrangeFrames(t *testing.T) {
	one := cellsOf(1, 2)
	record := recordOf(t, one)
	frames := strange()
	if len(frames) < 20 {
		t.Fatalf("%d strange frames", len(frames))
	}
	for what, frame := range frames {
		if len(frame) == 0 {
			t.Fatalf("%s is no frame", what)
		}
		wantScan(t, what, frame, nil, 0)
		wantScan(t, what+" ahead of a record", append(bytes.Clone(frame), record...), nil, 0)
		wantScan(t, what+" between records", slices.Concat(record, record, frame, record), [][]api.Cell{one, one}, 2*len(record))
	}
}

// P7.1, R1: bytes that are no frames.
func TestScanOfNoFrames(t *testing.T) {
	one := cellsOf(1, 1)
	record := recordOf(t, one)
	source := rand.New(rand.NewPCG(3, 0))
	for n := range 40 {
		rest := make([]byte, n)
		wantScan(t, "a record and noughts", append(bytes.Clone(record), rest...), [][]api.Cell{one}, len(record))
		for i := range rest {
			rest[i] = byte(source.Uint64())
		}
		wantScan(t, "any bytes", rest, nil, 0)
		wantScan(t, "a record and any bytes", append(bytes.Clone(record), rest...), [][]api.Cell{one}, len(record))
	}
	wantScan(t, "a count above MaxFrame", append([]byte{0, 4, 0, 1}, make([]byte, api.MaxFrame+5)...), nil, 0)
	wantScan(t, "a count of 32 bits", bytes.Repeat([]byte{255}, 100), nil, 0)
}

// R3: Record leaves its argument as it was, and neither keeps it nor shares its answer.
func TestRecordMemory(t *testing.T) {
	room := cellsOf(1, 6)
	first := recordOf(t, room[:3])
	before := bytes.Clone(first)
	if !slices.Equal(room, cellsOf(1, 6)) {
		t.Errorf("Record changed its argument: %v", room)
	}
	second := recordOf(t, room[:3])
	for i := range second[:cap(second)] {
		second[:cap(second)][i] = 9
	}
	room[0] = cellOf(77)
	if !bytes.Equal(first, before) {
		t.Error("Record shares its answer")
	}
}

// R3: Scan leaves its argument as it was, keeps nothing of it, and no two lists of its answer share any.
func TestScanMemory(t *testing.T) {
	want := [][]api.Cell{cellsOf(1, 3), cellsOf(4, 2), cellsOf(6, 1)}
	var b []byte
	for _, l := range want {
		b = append(b, recordOf(t, l)...)
	}
	room := append(bytes.Clone(b), 1, 2, 3)
	before := bytes.Clone(room)
	got, _ := wal.Scan(room[:len(b)])
	again, _ := wal.Scan(room[:len(b)])
	if !bytes.Equal(room, before) {
		t.Error("Scan changed its argument")
	}
	for i := range room {
		room[i] = 0
	}
	for _, l := range again {
		for i := range l[:cap(l)] {
			l[:cap(l)][i] = api.Cell{}
		}
	}
	for i := range got {
		_ = append(got[i], cellOf(99))
		for j := len(got[i]); j < cap(got[i]); j++ {
			got[i][:cap(got[i])][j] = cellOf(99)
		}
	}
	if !sameRecords(got, want) {
		t.Errorf("what was told is now %v", got)
	}
}
