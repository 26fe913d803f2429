package table_test

import (
	"bytes"
	"encoding/binary"
	"hash/crc32"
	"math"
	"math/rand/v2"
	"slices"
	"strings"
	"testing"

	"skerry/api"
	"skerry/bloom"
	"skerry/key"
	"skerry/table"
)

// mostCells: a table has no more.
const mostCells = 20000

// cellOf: a good one; they rise with their numbers, which leave room between two rows.
func cellOf(n int) api.Cell {
	return api.Cell{Key: api.Key{Table: "t", Part: "p", Row: 2 * n, Column: "c"}, Version: api.Version{Time: n, Value: api.Value{Kind: api.Int, N: -n}}}
}

// cellsOf: so many of them, from 1 on.
func cellsOf(count int) []api.Cell {
	l := make([]api.Cell, count)
	for i := range l {
		l[i] = cellOf(1 + i)
	}
	return l
}

// wideKey: a good one of as many bytes as may be; they rise with their rows.
func wideKey(row int) api.Key {
	name := strings.Repeat("a", api.MaxName)
	return api.Key{Table: name, Part: strings.Repeat("\x00", api.MaxText), Row: row, Column: name}
}

// wideCells: so many good cells of as many bytes as may be.
func wideCells(count int) []api.Cell {
	l := make([]api.Cell, count)
	for i := range l {
		v := api.Version{Time: math.MinInt, Value: api.Value{Kind: api.Str, S: strings.Repeat("\xff", api.MaxText)}}
		l[i] = api.Cell{Key: wideKey(math.MinInt + i), Version: v}
	}
	return l
}

// badCells: one for each way not to be good, whose key, where that is good, is cellOf(5)'s or its row's.
func badCells() []api.Cell {
	change := func(f func(c *api.Cell)) api.Cell {
		c := cellOf(5)
		f(&c)
		return c
	}
	return []api.Cell{
		change(func(c *api.Cell) { c.Key.Table = "" }),
		change(func(c *api.Cell) { c.Key.Table = "T" }),
		change(func(c *api.Cell) { c.Key.Table = "t\x00" }),
		change(func(c *api.Cell) { c.Key.Table = strings.Repeat("t", api.MaxName+1) }),
		change(func(c *api.Cell) { c.Key.Part = "" }),
		change(func(c *api.Cell) { c.Key.Part = strings.Repeat("p", api.MaxText+1) }),
		change(func(c *api.Cell) { c.Key.Column = "9" }),
		change(func(c *api.Cell) { c.Key.Column = "" }),
		change(func(c *api.Cell) { c.Version.Local = 1 }),
		change(func(c *api.Cell) { c.Version.Local = math.MinInt }),
		change(func(c *api.Cell) { c.Version.Dead = true }),
		change(func(c *api.Cell) {
			c.Version = api.Version{Dead: true, Local: 1, Value: api.Value{Kind: api.Str}}
		}),
		change(func(c *api.Cell) { c.Version.Value.S = "s" }),
		change(func(c *api.Cell) { c.Version.Value.Kind = api.None }),
		change(func(c *api.Cell) { c.Version.Value.Kind = api.Str }),
		change(func(c *api.Cell) { c.Version.Value.Kind = 3 }),
		change(func(c *api.Cell) { c.Version.Value.Kind = -1 }),
		change(func(c *api.Cell) { c.Version.Value = api.Value{} }),
		change(func(c *api.Cell) {
			c.Version.Value = api.Value{Kind: api.Str, S: strings.Repeat("s", api.MaxText+1)}
		}),
		{Key: key.Row(cellOf(5).Key), Version: api.Version{Local: 1}},
		{Key: key.Row(cellOf(5).Key), Version: api.Version{Value: api.Value{Kind: api.Str}}},
	}
}

func anyNumber(source *rand.Rand) int {
	switch source.IntN(6) {
	case 0:
		return math.MinInt
	case 1:
		return math.MaxInt
	}
	return int(int64(source.Uint64()) >> source.IntN(64))
}

func anyText(source *rand.Rand, least, most int) string {
	b := make([]byte, least+source.IntN(most-least+1))
	for i := range b {
		b[i] = "\x00\x01ab\xfe\xff"[source.IntN(6)]
	}
	return string(b)
}

func anyKey(source *rand.Rand) api.Key {
	return api.Key{
		Table:  []string{"a", "a_", "b"}[source.IntN(3)],
		Part:   anyText(source, 1, 3),
		Row:    anyNumber(source),
		Column: []string{"", "a", "a0", "b"}[source.IntN(4)],
	}
}

func anyVersion(source *rand.Rand, mark bool) api.Version {
	v := api.Version{Time: anyNumber(source)}
	switch which := source.IntN(3); {
	case which == 0:
		v.Dead, v.Local = true, anyNumber(source)
	case mark:
	case which == 1:
		v.Value = api.Value{Kind: api.Int, N: anyNumber(source)}
	default:
		v.Value = api.Value{Kind: api.Str, S: anyText(source, 0, api.MaxText)}
	}
	return v
}

// anyCells: at most so many good ones of all kinds, sorted, each key once; at least one.
func anyCells(source *rand.Rand, most int) []api.Cell {
	l := make([]api.Cell, 1+source.IntN(most))
	for i := range l {
		k := anyKey(source)
		l[i] = api.Cell{Key: k, Version: anyVersion(source, k.Column == "")}
	}
	slices.SortFunc(l, func(a, b api.Cell) int { return key.Cmp(a.Key, b.Key) })
	return slices.CompactFunc(l, func(a, b api.Cell) bool { return a.Key == b.Key })
}

// The forms below are spelt anew, by the library's own numbers and sums.

func number(u int) []byte { return binary.AppendUvarint(nil, uint64(u)) }

func signed(n int) []byte { return binary.AppendVarint(nil, int64(n)) }

func text(s string) []byte { return append(number(len(s)), s...) }

func join(parts ...[]byte) []byte { return bytes.Join(parts, nil) }

func frame(content []byte) []byte {
	count := binary.BigEndian.AppendUint32(nil, uint32(len(content)))
	sum := crc32.ChecksumIEEE(join(count, content))
	return join(binary.BigEndian.AppendUint32(count, sum), content)
}

func blockOf(l []api.Cell) []byte {
	b := number(len(l))
	for _, c := range l {
		k, v := c.Key, c.Version
		b = append(b, join(text(k.Table), text(k.Part), signed(k.Row), text(k.Column), signed(v.Time))...)
		if v.Dead {
			b = append(b, join([]byte{1}, signed(v.Local))...)
		} else {
			b = append(b, join([]byte{0}, number(v.Value.Kind), signed(v.Value.N), text(v.Value.S))...)
		}
	}
	return b
}

// entry: what an index tells of a block.
func entry(k api.Key, size int) []byte {
	return join(text(string(key.Bytes(k))), number(size))
}

// spelt is a table's contents, which need not be what Write would tell.
type spelt struct {
	blocks [][]byte
	index  []byte
	filter []byte
	// end tells the content of the end by what there is.
	end func(blocks, index, filter, sum int) []byte
	// last tells the last byte by how many bytes the end's frame has.
	last func(end int) []byte
}

func endOf(cells int) func(blocks, index, filter, sum int) []byte {
	return func(blocks, index, filter, sum int) []byte {
		return join(number(cells), number(blocks), number(index), number(filter), number(sum))
	}
}

func (s spelt) bytes() []byte {
	var b []byte
	for _, block := range s.blocks {
		b = append(b, frame(block)...)
	}
	size := len(b)
	index, filter := frame(s.index), frame(s.filter)
	b = join(b, index, filter)
	end := frame(s.end(size, len(index), len(filter), int(crc32.ChecksumIEEE(b))))
	return join(b, end, s.last(len(end)))
}

// parted: with these blocks, the index telling of just these.
func parted(blocks ...[]api.Cell) spelt {
	s := spelt{last: func(end int) []byte { return []byte{byte(end)} }}
	s.index = number(len(blocks))
	var all []api.Cell
	for _, l := range blocks {
		block := blockOf(l)
		s.blocks = append(s.blocks, block)
		var first api.Key
		if len(l) > 0 {
			first = l[0].Key
		}
		s.index = append(s.index, entry(first, len(frame(block)))...)
		all = append(all, l...)
	}
	s.filter = filterOf(all).Bytes()
	s.end = endOf(len(all))
	return s
}

// spell: as Write is to tell it.
func spell(l []api.Cell) spelt {
	return parted(slices.Collect(slices.Chunk(l, 8))...)
}

func filterOf(l []api.Cell) *bloom.Filter {
	f := bloom.New(len(l), 10)
	for _, c := range l {
		f.Add(key.Bytes(c.Key))
	}
	return f
}

func write(t *testing.T, l []api.Cell) []byte {
	t.Helper()
	b, e := table.Write(l)
	if e != api.OK || len(b) == 0 {
		t.Fatalf("Write of %d cells: %d bytes, %v", len(l), len(b), e)
	}
	return b
}

func open(t *testing.T, b []byte) *table.Table {
	t.Helper()
	x, e := table.Open(b)
	if e != api.OK || x == nil {
		t.Fatalf("Open of %d bytes: a table is %v, %v", len(b), x != nil, e)
	}
	return x
}

func tableOf(t *testing.T, l []api.Cell) *table.Table {
	t.Helper()
	return open(t, write(t, l))
}

func wantRefused(t *testing.T, what string, l []api.Cell, want api.Errno) {
	t.Helper()
	if b, e := table.Write(l); len(b) != 0 || e != want {
		t.Errorf("Write of %s: %d bytes, %v, want none, %v", what, len(b), e, want)
	}
}

func wantCorrupt(t *testing.T, what string, b []byte) {
	t.Helper()
	if x, e := table.Open(b); x != nil || e != api.ErrCorrupt {
		t.Errorf("Open of %s: a table is %v, %v, want none, %v", what, x != nil, e, api.ErrCorrupt)
	}
}
