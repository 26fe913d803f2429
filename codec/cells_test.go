package codec_test

import (
	"bytes"
	"math"
	"slices"
	"strings"
	"testing"

	"skerry/api"
	"skerry/codec"
)

// join: parts of bytes, one behind the other.
func join(parts ...[]byte) []byte {
	return bytes.Join(parts, nil)
}

func number(u uint64) []byte { return codec.Put(nil, u) }

func signed(n int) []byte { return codec.Put(nil, codec.Zig(n)) }

func text(s string) []byte { return codec.PutText(nil, s) }

// The ends of an int.
const greatest, least = math.MaxInt, math.MinInt

func live(k api.Key, time int, v api.Value) api.Cell {
	return api.Cell{Key: k, Version: api.Version{Time: time, Value: v}}
}

func dead(k api.Key, time, local int) api.Cell {
	return api.Cell{Key: k, Version: api.Version{Time: time, Dead: true, Local: local}}
}

// manyCells: of both kinds, with fields at their ends and such as no layer above would keep.
func manyCells() []api.Cell {
	k := api.Key{Table: "t", Part: "p", Row: 3, Column: "c"}
	odd := api.Key{Table: "\x00", Part: strings.Repeat("é", 100), Row: least, Column: "\xff"}
	return []api.Cell{
		{},
		live(k, 5, api.Value{Kind: api.Int, N: -7}),
		live(k, 5, api.Value{Kind: api.Str, S: "text"}),
		dead(k, 6, 7),
		live(api.Key{Table: "t", Part: "p"}, 1, api.Value{}),
		live(odd, greatest, api.Value{Kind: greatest, N: greatest, S: strings.Repeat("z", 300)}),
		live(odd, least, api.Value{Kind: least, N: least, S: "\x80"}),
		live(odd, -1, api.Value{Kind: -1, N: 1, S: "both"}),
		dead(odd, greatest, least),
		dead(odd, least, greatest),
		dead(api.Key{}, 0, 0),
	}
}

func wantCorrupt(t *testing.T, what string, b []byte) {
	t.Helper()
	if l, e := codec.ReadCells(b); len(l) != 0 || e != api.ErrCorrupt {
		t.Errorf("ReadCells of %s (%d): %#v, %v; want none, %v", what, b, l, e, api.ErrCorrupt)
	}
}

func wantCells(t *testing.T, b []byte, want []api.Cell) {
	t.Helper()
	if l, e := codec.ReadCells(b); e != api.OK || !slices.Equal(l, want) {
		t.Errorf("ReadCells(%d): %#v, %v; want %#v", b, l, e, want)
	}
}

// P1.3
func TestCellsBytes(t *testing.T) {
	k := api.Key{Table: "t", Part: "pp", Row: -3, Column: "c"}
	keyBytes := []byte{1, 't', 2, 'p', 'p', 5, 1, 'c'}
	for _, c := range []struct {
		what string
		l    []api.Cell
		want []byte
	}{
		{"nil", nil, []byte{0}},
		{"none", []api.Cell{}, []byte{0}},
		{"a zero cell", make([]api.Cell, 1), []byte{1, 0, 0, 0, 0, 0, 0, 0, 0, 0}},
		{"a live int", []api.Cell{live(k, 150, api.Value{Kind: api.Int, N: -1})}, join([]byte{1}, keyBytes, []byte{172, 2, 0, 1, 1, 0})},
		{"a live text", []api.Cell{live(k, 1, api.Value{Kind: api.Str, S: "ab"})}, join([]byte{1}, keyBytes, []byte{2, 0, 2, 0, 2, 'a', 'b'})},
		{"a dead one", []api.Cell{dead(k, -1, 150)}, join([]byte{1}, keyBytes, []byte{1, 1, 172, 2})},
		{"two", []api.Cell{dead(k, 1, 2), live(api.Key{}, 3, api.Value{})}, join([]byte{2}, keyBytes, []byte{2, 1, 4}, []byte{0, 0, 0, 0, 6, 0, 0, 0, 0})},
	} {
		if got := codec.Cells(c.l); !bytes.Equal(got, c.want) {
			t.Errorf("Cells of %s: %d, want %d", c.what, got, c.want)
		}
		wantCells(t, c.want, c.l)
	}
}

// P1.3: the whole form, spelt by the calls that it is made of.
func TestCellsForm(t *testing.T) {
	l := manyCells()
	want := number(uint64(len(l)))
	for _, c := range l {
		k, v := c.Key, c.Version
		want = join(want, text(k.Table), text(k.Part), signed(k.Row), text(k.Column), signed(v.Time))
		if v.Dead {
			want = join(want, []byte{1}, signed(v.Local))
		} else {
			want = join(want, []byte{0}, number(uint64(v.Value.Kind)), signed(v.Value.N), text(v.Value.S))
		}
	}
	if got := codec.Cells(l); !bytes.Equal(got, want) {
		t.Errorf("Cells: %d, want %d", got, want)
	}
}

// P1.3: a dead one's value and a live one's local time are not written.
func TestCellsNotWritten(t *testing.T) {
	k := api.Key{Table: "t", Part: "p", Row: 1, Column: "c"}
	full := []api.Cell{
		{Key: k, Version: api.Version{Time: 4, Dead: true, Local: 9, Value: api.Value{Kind: api.Str, N: 8, S: "gone"}}},
		{Key: k, Version: api.Version{Time: 4, Local: 9, Value: api.Value{Kind: api.Int, N: 8}}},
	}
	bare := []api.Cell{dead(k, 4, 9), live(k, 4, api.Value{Kind: api.Int, N: 8})}
	if got, want := codec.Cells(full), codec.Cells(bare); !bytes.Equal(got, want) {
		t.Errorf("Cells: %d, want %d", got, want)
	}
	wantCells(t, codec.Cells(full), bare)
}

// P1.3
func TestReadCellsWrong(t *testing.T) {
	head := []byte{1, 1, 't', 1, 'p', 2, 1, 'c', 2}
	wantCells(t, join(head, []byte{0, 1, 4, 0}), []api.Cell{live(api.Key{Table: "t", Part: "p", Row: 1, Column: "c"}, 1, api.Value{Kind: api.Int, N: 2})})
	for _, c := range []struct {
		what string
		b    []byte
	}{
		{"nil", nil},
		{"nothing", []byte{}},
		{"a byte behind no cells", []byte{0, 0}},
		{"a byte behind a live cell", join(head, []byte{0, 1, 4, 0, 0})},
		{"a byte behind a dead cell", join(head, []byte{1, 4, 0})},
		{"neither live nor dead", join(head, []byte{2, 4})},
		{"neither live nor dead, at the end", join(head, []byte{255, 1, 4, 0})},
		{"a mark of two bytes", join(head, []byte{129, 0, 4})},
		{"a count that is one too few", join([]byte{0}, head[1:], []byte{1, 4})},
		{"a count that is one too many", join([]byte{2}, head[1:], []byte{1, 4})},
		{"a count that is longer than it needs", join([]byte{129, 0}, head[1:], []byte{1, 4})},
		{"no cells in two bytes", []byte{128, 0}},
		{"the greatest count", join(number(math.MaxUint64), head[1:], []byte{1, 4})},
		{"a count above an int", join(number(1<<63), head[1:], []byte{1, 4})},
		{"a count above 64 bits", join(bytes.Repeat([]byte{255}, 9), []byte{2}, head[1:], []byte{1, 4})},
		{"a table that is too long", join([]byte{1}, number(math.MaxUint64), []byte("t"))},
		{"a value's text that ends too early", join(head, []byte{0, 2, 0, 3, 'a', 'b'})},
	} {
		wantCorrupt(t, c.what, c.b)
	}
}

// P1.3: in no place does a number stand in more bytes than it needs.
func TestReadCellsLongNumbers(t *testing.T) {
	parts := [][]byte{{1}, {1}, []byte("t"), {1}, []byte("p"), {2}, {1}, []byte("c"), {2}, {0}, {1}, {4}, {1}, []byte("s")}
	if _, e := codec.ReadCells(join(parts...)); e != api.OK {
		t.Fatalf("ReadCells of the parts: %v", e)
	}
	for i, p := range parts {
		if p[0] > 'a' {
			continue
		}
		changed := slices.Clone(parts)
		changed[i] = []byte{p[0] + 128, 0}
		wantCorrupt(t, "a number that is longer than it needs", join(changed...))
	}
}

// P1.3 and P1.4: what is cut off, or has more behind it, is what Cells tells of no list.
func TestReadCellsBeginnings(t *testing.T) {
	b := codec.Cells(manyCells())
	for end := range len(b) {
		wantCorrupt(t, "a beginning", b[:end])
	}
	for _, x := range []byte{0, 1, 255} {
		wantCorrupt(t, "a byte more", join(b, []byte{x}))
	}
}

// P1.4
func TestReadCellsUndoesCells(t *testing.T) {
	all := manyCells()
	for n := range len(all) + 1 {
		wantCells(t, codec.Cells(all[:n]), all[:n])
	}
	source := newSource(21)
	for range 300 {
		l := make([]api.Cell, source.below(20))
		for i := range l {
			l[i] = anyCell(source)
		}
		wantCells(t, codec.Cells(l), l)
	}
}

// P1.4: more cells than one message may have are cells as well.
func TestReadCellsMany(t *testing.T) {
	source := newSource(22)
	l := make([]api.Cell, 20*api.MaxCells)
	for i := range l {
		l[i] = anyCell(source)
	}
	got, e := codec.ReadCells(codec.Cells(l))
	if e != api.OK || !slices.Equal(got, l) {
		t.Errorf("ReadCells of %d cells: %d cells, %v", len(l), len(got), e)
	}
}

func anyCell(s *source) api.Cell {
	k := api.Key{Table: anyText(s), Part: anyText(s), Row: int(s.sized()), Column: anyText(s)}
	if s.below(3) == 0 {
		return dead(k, int(s.sized()), int(s.sized()))
	}
	return live(k, int(s.sized()), api.Value{Kind: s.below(3), N: int(s.sized()), S: anyText(s)})
}

func anyText(s *source) string {
	return string(s.bytes(s.below(6)))
}

// P1.4 and R1: bytes are refused, or are just what Cells tells of what was read.
func TestCellsUndoesReadCells(t *testing.T) {
	source := newSource(23)
	good := codec.Cells(manyCells())
	for range 20000 {
		b := slices.Clone(good)
		for range 1 + source.below(3) {
			b[source.below(len(b))] = byte(source.next())
		}
		checkRead(t, b)
		small := source.bytes(source.below(40))
		for i := range small {
			small[i] %= 4
		}
		checkRead(t, small)
		checkRead(t, source.bytes(source.below(40)))
	}
}

func checkRead(t *testing.T, b []byte) {
	t.Helper()
	before := slices.Clone(b)
	l, e := codec.ReadCells(b)
	switch {
	case !bytes.Equal(b, before):
		t.Errorf("ReadCells changed its argument %d to %d", before, b)
	case e == api.OK && !bytes.Equal(codec.Cells(l), b):
		t.Errorf("ReadCells(%d): %#v, of which Cells tells %d", b, l, codec.Cells(l))
	case e != api.OK && (e != api.ErrCorrupt || len(l) != 0):
		t.Errorf("ReadCells(%d): %#v, %v", b, l, e)
	}
}

// R3
func TestCellsMemory(t *testing.T) {
	l := manyCells()
	room := append(slices.Clone(l), live(api.Key{Table: "behind"}, 1, api.Value{}))
	first := codec.Cells(room[:len(l)])
	want := slices.Clone(first)
	got, _ := codec.ReadCells(first)
	spoil(first)
	if !slices.Equal(got, l) {
		t.Errorf("ReadCells keeps its argument: %#v", got)
	}
	if second := codec.Cells(l); !bytes.Equal(second, want) {
		t.Errorf("Cells answers %d the second time, %d the first", second, want)
	}
	if room[len(l)].Key.Table != "behind" || !slices.Equal(room[:len(l)], l) {
		t.Error("Cells changed its argument")
	}
}
