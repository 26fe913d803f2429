package table_test

import (
	"bytes"
	"hash/crc32"
	"math"
	"math/rand/v2"
	"slices"
	"testing"

	"skerry/api"
	"skerry/bloom"
	"skerry/key"
	"skerry/table"
)

// changed: the table of so many cells, with something else in it.
func changed(n int, f func(s *spelt)) []byte {
	s := spell(cellsOf(n))
	f(&s)
	return s.bytes()
}

// wantNone also holds that the bytes are not, by chance, those of the table itself.
func wantNone(t *testing.T, what string, n int, f func(s *spelt)) {
	t.Helper()
	b := changed(n, f)
	if bytes.Equal(b, spell(cellsOf(n)).bytes()) {
		t.Errorf("%s: nothing has changed", what)
	}
	wantCorrupt(t, what, b)
}

// P9.3: Open undoes Write, and Write Open.
func TestOpenUndoesWrite(t *testing.T) {
	source := rand.New(rand.NewPCG(6, 0))
	for range 500 {
		l := anyCells(source, 100)
		b := write(t, l)
		got := open(t, b).All()
		if !slices.Equal(got, l) {
			t.Fatalf("Open of what Write told of %v: %v", l, got)
		}
		if !bytes.Equal(write(t, got), b) {
			t.Fatalf("Write of what Open told of %v tells other bytes", l)
		}
	}
	for _, n := range []int{1, 8, 9, 1000} {
		l := wideCells(n)
		if !slices.Equal(tableOf(t, l).All(), l) {
			t.Errorf("Open of %d wide cells tells others", n)
		}
	}
}

// P9.2
func TestOpenOfNothing(t *testing.T) {
	wantCorrupt(t, "nil", nil)
	wantCorrupt(t, "no bytes", []byte{})
	for x := range 256 {
		wantCorrupt(t, "one byte", []byte{byte(x)})
		wantCorrupt(t, "a byte many times", bytes.Repeat([]byte{byte(x)}, 300))
	}
	source := rand.New(rand.NewPCG(7, 0))
	for range 2000 {
		b := make([]byte, source.IntN(200))
		for i := range b {
			b[i] = byte(source.Uint64())
		}
		wantCorrupt(t, "any bytes", b)
	}
}

// P9.3
func TestOpenOfCutBytes(t *testing.T) {
	for _, l := range [][]api.Cell{cellsOf(1), cellsOf(8), cellsOf(9), cellsOf(40), wideCells(17)} {
		b := write(t, l)
		for at := range b {
			wantCorrupt(t, "a beginning", b[:at])
			wantCorrupt(t, "an end", b[at+1:])
			wantCorrupt(t, "all but a byte", slices.Delete(bytes.Clone(b), at, at+1))
			wantCorrupt(t, "a byte twice", slices.Insert(bytes.Clone(b), at, b[at]))
		}
		open(t, b)
	}
}

// P9.3, and the end's own bits as well.
func TestOpenOfTurnedBits(t *testing.T) {
	for _, l := range [][]api.Cell{cellsOf(1), cellsOf(8), cellsOf(9), cellsOf(40), wideCells(9)} {
		b := write(t, l)
		for bit := range 8 * len(b) {
			b[bit/8] ^= 1 << (bit % 8)
			wantCorrupt(t, "a turned bit", b)
			b[bit/8] ^= 1 << (bit % 8)
		}
		open(t, b)
	}
}

// P9.3: bits of the greatest table, of each of its parts.
func TestOpenOfTurnedBitsInTheGreatest(t *testing.T) {
	b := write(t, cellsOf(mostCells))
	source := rand.New(rand.NewPCG(8, 0))
	places := []int{0, len(b) - 1, len(b) - 10, len(b) - 30, len(b) - 2000, len(b) - 26000, len(b) - 60000}
	for range 20 {
		places = append(places, source.IntN(len(b)))
	}
	for _, at := range places {
		b[at] ^= 16
		wantCorrupt(t, "a turned bit", b)
		b[at] ^= 16
	}
	open(t, b)
}

// P9.2
func TestOpenOfMoreBytes(t *testing.T) {
	for _, n := range []int{1, 8, 9} {
		b := write(t, cellsOf(n))
		other := write(t, cellsOf(3))
		for _, more := range [][]byte{{0}, {1}, {255}, b[len(b)-1:], b[len(b)-18:], b, other} {
			wantCorrupt(t, "more bytes behind the end", join(b, more))
			wantCorrupt(t, "more bytes ahead", join(more, b))
		}
	}
}

// P9.2: more bytes that an end of their own, or the blocks, would cover.
func TestOpenOfMoreParts(t *testing.T) {
	for _, n := range []int{1, 8, 9} {
		b, s := write(t, cellsOf(n)), spell(cellsOf(n))
		wantCorrupt(t, "a block without cells ahead of a table", join(frame(number(0)), b))
		blocks := 0
		for _, block := range s.blocks {
			blocks += len(frame(block))
		}
		more := join(b, frame(s.filter))
		end := frame(s.end(blocks, len(b)-blocks, len(frame(s.filter)), int(crc32.ChecksumIEEE(more))))
		wantCorrupt(t, "another filter and end behind a table", join(more, end, s.last(len(end))))
	}
}

// P9.2: the counts of the end, and the one behind it.
func TestOpenOfOtherEnds(t *testing.T) {
	counts := func(s *spelt, change func(l []int)) {
		cells := s.end
		s.end = func(blocks, index, filter, sum int) []byte {
			l := []int{9, blocks, index, filter, sum}
			if !bytes.Equal(cells(blocks, index, filter, sum), join(number(l[0]), number(l[1]), number(l[2]), number(l[3]), number(l[4]))) {
				t.Error("the end is another ahead of the change")
			}
			change(l)
			return join(number(l[0]), number(l[1]), number(l[2]), number(l[3]), number(l[4]))
		}
	}
	for i := range 5 {
		for _, add := range []int{-8, -1, 1, 8, 1 << 20, math.MaxInt32, math.MinInt, math.MaxInt - 1000} {
			wantNone(t, "an end with another count", 9, func(s *spelt) { counts(s, func(l []int) { l[i] += add }) })
		}
		for _, set := range []int{0, 1, 255, math.MaxInt, math.MinInt, -1} {
			wantNone(t, "an end with another count", 9, func(s *spelt) { counts(s, func(l []int) { l[i] = set }) })
		}
		for j := range i {
			wantNone(t, "an end with two counts the other way round", 9, func(s *spelt) { counts(s, func(l []int) { l[i], l[j] = l[j], l[i] }) })
			wantNone(t, "an end with counts of the same sum", 9, func(s *spelt) { counts(s, func(l []int) { l[i]++; l[j]-- }) })
		}
	}
}

// P9.2: an end that is told in other bytes.
func TestOpenOfOtherEndBytes(t *testing.T) {
	for _, c := range []struct {
		what   string
		change func(end []byte) []byte
	}{
		{"no end", func(end []byte) []byte { return nil }},
		{"a byte more", func(end []byte) []byte { return append(end, 0) }},
		{"the end twice", func(end []byte) []byte { return join(end, end) }},
		{"a byte less", func(end []byte) []byte { return end[:len(end)-1] }},
		{"no sum", func(end []byte) []byte { return end[:len(end)-5] }},
		{"a number that is longer than it needs", func(end []byte) []byte { return join([]byte{end[0] + 128, 0}, end[1:]) }},
		{"a number that does not end", func(end []byte) []byte { return bytes.Repeat([]byte{255}, 20) }},
		{"numbers that do not end", func(end []byte) []byte { return append(end[:1], 255, 255) }},
		{"many bytes", func(end []byte) []byte { return append(end, make([]byte, 200)...) }},
		{"more bytes than a byte counts", func(end []byte) []byte { return append(end, make([]byte, 256)...) }},
	} {
		wantNone(t, c.what, 9, func(s *spelt) {
			whole := s.end
			s.end = func(blocks, index, filter, sum int) []byte { return c.change(whole(blocks, index, filter, sum)) }
		})
	}
	for _, add := range []int{-17, -9, -8, -1, 1, 2, 8, 100} {
		wantNone(t, "another count of the end", 9, func(s *spelt) {
			s.last = func(end int) []byte { return []byte{byte(end + add)} }
		})
	}
	wantNone(t, "no count of the end", 9, func(s *spelt) { s.last = func(int) []byte { return nil } })
	wantNone(t, "the count of the end's content", 9, func(s *spelt) { s.last = func(end int) []byte { return []byte{byte(end - 8)} } })
	wantNone(t, "the count of the end twice", 9, func(s *spelt) { s.last = func(end int) []byte { return []byte{byte(end), byte(end)} } })
	wantNone(t, "the count of the end in two bytes", 9, func(s *spelt) { s.last = func(end int) []byte { return []byte{0, byte(end)} } })
}

// P9.2: an index that is whole, but of another table.
func TestOpenOfOtherIndexes(t *testing.T) {
	l := cellsOf(17)
	first, middle, third := entry(l[0].Key, len(frame(blockOf(l[:8])))), entry(l[8].Key, len(frame(blockOf(l[8:16])))), entry(l[16].Key, len(frame(blockOf(l[16:]))))
	if got := spell(l).index; !bytes.Equal(got, join(number(3), first, middle, third)) {
		t.Fatalf("the index is %x", got)
	}
	for _, c := range []struct {
		what  string
		index []byte
	}{
		{"no index", nil},
		{"an index of no blocks", number(0)},
		{"a block less", join(number(2), first, middle)},
		{"a block more", join(number(4), first, middle, third, third)},
		{"a lesser count", join(number(2), first, middle, third)},
		{"a greater count", join(number(4), first, middle, third)},
		{"a count that is longer than it needs", join([]byte{131, 0}, first, middle, third)},
		{"a byte more", join(number(3), first, middle, third, []byte{0})},
		{"a byte less", join(number(3), first, middle, third[:len(third)-1])},
		{"the blocks in another order", join(number(3), middle, first, third)},
		{"a block twice", join(number(3), first, first, third)},
		{"another key", join(number(3), first, entry(l[9].Key, len(frame(blockOf(l[8:16])))), third)},
		{"a key that is no good one", join(number(3), first, entry(api.Key{}, len(frame(blockOf(l[8:16])))), third)},
		{"a key's bytes that are none", join(number(3), first, text("x"), number(len(frame(blockOf(l[8:16])))), third)},
		{"another size", join(number(3), first, middle, entry(l[16].Key, len(frame(blockOf(l[16:])))+1))},
		{"sizes without heads", join(number(3), entry(l[0].Key, len(blockOf(l[:8]))), entry(l[8].Key, len(blockOf(l[8:16]))), entry(l[16].Key, len(blockOf(l[16:]))))},
		{"the filter", filterOf(l).Bytes()},
	} {
		wantNone(t, c.what, 17, func(s *spelt) { s.index = c.index })
	}
}

// P9.2: a filter that is whole, but not of these keys.
func TestOpenOfOtherFilters(t *testing.T) {
	l := cellsOf(20)
	with := func(n, bits int, cells []api.Cell) []byte {
		f := bloom.New(n, bits)
		for _, c := range cells {
			f.Add(key.Bytes(c.Key))
		}
		return f.Bytes()
	}
	good := filterOf(l).Bytes()
	if !bytes.Equal(with(20, 10, l), good) {
		t.Fatal("the filter is another")
	}
	for bit := range 8 * len(good) {
		b := bytes.Clone(good)
		b[bit/8] ^= 1 << (bit % 8)
		wantNone(t, "a bit of the filter turned", 20, func(s *spelt) { s.filter = b })
	}
	for _, c := range []struct {
		what   string
		filter []byte
	}{
		{"no filter", nil},
		{"one of no keys", with(20, 10, nil)},
		{"one without a key", with(20, 10, l[1:])},
		{"one with a key more", with(20, 10, append(cellsOf(20), cellOf(21)))},
		{"one of all bits", append(slices.Clone(good[:2]), bytes.Repeat([]byte{255}, len(good)-2)...)},
		{"one of fewer bits a key", with(20, 9, l)},
		{"one of more bits a key", with(20, 11, l)},
		{"one of more keys", with(21, 10, l)},
		{"one of fewer keys", with(19, 10, l)},
		{"a byte more", append(slices.Clone(good), 0)},
		{"a byte less", good[:len(good)-1]},
		{"a K that is longer than it needs", join([]byte{135, 0}, good[1:])},
		{"one whose count is longer than it needs", join(good[:1], []byte{good[1] + 128, 0}, good[2:])},
		{"the index", spell(l).index},
	} {
		wantNone(t, c.what, 20, func(s *spelt) { s.filter = c.filter })
	}
}

// P9.2: frames that are whole, with an index, a filter and an end of just these, but not the blocks that Write tells.
func TestOpenOfOtherBlocks(t *testing.T) {
	l := cellsOf(17)
	if got := parted(l[:8], l[8:16], l[16:]).bytes(); !bytes.Equal(got, write(t, l)) {
		t.Fatal("the blocks of Write are others")
	}
	for _, c := range []struct {
		what   string
		blocks [][]api.Cell
	}{
		{"no blocks", nil},
		{"a block without cells", [][]api.Cell{nil}},
		{"a block without cells at first", [][]api.Cell{nil, l[:8], l[8:16], l[16:]}},
		{"a block without cells between", [][]api.Cell{l[:8], nil, l[8:16], l[16:]}},
		{"a block without cells at the end", [][]api.Cell{l[:8], l[8:16], nil}},
		{"a block that is not full", [][]api.Cell{l[:7], l[7:15], l[15:]}},
		{"a block that is not full between", [][]api.Cell{l[:8], l[8:15], l[15:]}},
		{"a block that is too full", [][]api.Cell{l[:9]}},
		{"a block that is too full at the end", [][]api.Cell{l[:8], l[8:]}},
		{"one block", [][]api.Cell{l}},
		{"blocks of one cell", slices.Collect(slices.Chunk(l, 1))},
		{"blocks of seven", slices.Collect(slices.Chunk(l, 7))},
		{"blocks of nine", slices.Collect(slices.Chunk(l, 9))},
		{"blocks of sixteen", slices.Collect(slices.Chunk(l, 16))},
		{"the short one first", [][]api.Cell{l[:1], l[1:9], l[9:]}},
	} {
		wantCorrupt(t, c.what, parted(c.blocks...).bytes())
	}
}

// P9.2: cells that are not sorted, that come twice or that are not good, where all else is as Write would tell it.
func TestOpenOfOtherCells(t *testing.T) {
	for _, n := range []int{2, 8, 9, 17} {
		for i := range n - 1 {
			l := cellsOf(n)
			l[i], l[i+1] = l[i+1], l[i]
			wantCorrupt(t, "cells that are not sorted", spell(l).bytes())
			l = cellsOf(n)
			l[i].Key = l[i+1].Key
			wantCorrupt(t, "a key twice", spell(l).bytes())
		}
	}
	for _, bad := range badCells() {
		if bad.Version.Dead || bad.Version.Local != 0 {
			continue // these have no bytes of their own: what is wrong with them is not written
		}
		wantCorrupt(t, "a bad cell alone", spell([]api.Cell{bad}).bytes())
		for at := range 9 {
			l := cellsOf(9)
			k := l[at].Key
			l[at] = bad
			if bad.Key == cellOf(5).Key {
				l[at].Key = k
			}
			wantCorrupt(t, "a bad cell", spell(l).bytes())
		}
	}
	l := cellsOf(mostCells + 1)
	wantCorrupt(t, "too many cells", spell(l).bytes())
	if !bytes.Equal(spell(l[:mostCells]).bytes(), write(t, l[:mostCells])) {
		t.Error("as many cells as may be are spelt otherwise")
	}
}

// P9.2: blocks whose content is no cells, in frames that are whole.
func TestOpenOfNoCells(t *testing.T) {
	good := blockOf(cellsOf(9)[:8])
	for _, c := range []struct {
		what  string
		block []byte
	}{
		{"nothing", nil},
		{"a byte more", append(slices.Clone(good), 0)},
		{"a byte less", good[:len(good)-1]},
		{"a count that is too great", join([]byte{9}, good[1:])},
		{"a count that is too little", join([]byte{7}, good[1:])},
		{"a count that is longer than it needs", join([]byte{136, 0}, good[1:])},
		{"a frame", frame(good)},
	} {
		for at := range 2 {
			wantNone(t, c.what, 9, func(s *spelt) { s.blocks[at] = c.block })
		}
	}
}

// P9.2 and R1: whatever bytes are changed, what is opened is what Write tells of it.
func TestOpenOfAnyBytes(t *testing.T) {
	source := rand.New(rand.NewPCG(9, 0))
	for range 300 {
		b := write(t, anyCells(source, 20))
		for range 30 {
			wrong := bytes.Clone(b)
			for range 1 + source.IntN(3) {
				wrong[source.IntN(len(wrong))] = byte(source.Uint64())
			}
			x, e := table.Open(wrong)
			switch {
			case e != api.OK && (e != api.ErrCorrupt || x != nil):
				t.Fatalf("Open: a table is %v, %v", x != nil, e)
			case e == api.OK && !bytes.Equal(write(t, x.All()), wrong):
				t.Fatal("Open took bytes that Write does not tell")
			}
		}
	}
}
