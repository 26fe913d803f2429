package table_test

import (
	"bytes"
	"encoding/hex"
	"math/rand/v2"
	"slices"
	"strings"
	"testing"

	"skerry/api"
	"skerry/cell"
)

// The chapter's example.
func TestExample(t *testing.T) {
	x := tableOf(t, cellsOf(9))
	if x.Blocks() != 2 || x.Len() != 9 {
		t.Errorf("nine cells: %d blocks, %d cells", x.Blocks(), x.Len())
	}
	wantRefused(t, "nothing", nil, api.ErrArg)
}

// P9.1: bytes that another program told by the document's words.
func TestWriteKnown(t *testing.T) {
	one := []api.Cell{{Key: api.Key{Table: "t", Part: "x"}}}
	nine := []api.Cell{
		{Key: api.Key{Table: "t", Part: "a\x00", Row: -1}, Version: api.Version{Time: 5}},
		{Key: api.Key{Table: "t", Part: "a\x00", Row: -1, Column: "c"}, Version: api.Version{Time: 6, Value: api.Value{Kind: api.Str, S: "text"}}},
		{Key: api.Key{Table: "t", Part: "b", Row: 1, Column: "c"}, Version: api.Version{Time: -7, Dead: true, Local: 8}},
	}
	for i := range 6 {
		nine = append(nine, api.Cell{Key: api.Key{Table: "t", Part: "b", Row: 2 + i, Column: "n"}, Version: api.Version{Time: i, Value: api.Value{Kind: api.Int, N: -i}}})
	}
	for _, c := range []struct {
		l    []api.Cell
		want string
	}{
		{one, "0000000cbb46da85010174017800000000000000" +
			"00000013673fbbc6011074000078000080000000000000000000" + "14" +
			"000000045420f1550702631c" +
			"00000009449ba5c101141b0cb9abbce60c" + "11"},
		{nine, "00000064014606bb08017402610001000a0000000001740261000101630c0002000474657874017401620201630d0110" +
			"0174016204016e00000100000174016206016e02000101000174016208016e0400010300017401620a016e0600010500017401620c016e0800010700" +
			"0000000df039491201017401620e016e0a00010900" +
			"000000287f2bbafc02127400006100ff00007fffffffffffffff00006c1174000062000080000000000000076e000015" +
			"0000000eebe081d7070cda1e1a6035a56637b3c9f80a" +
			"0000000956c2dce30981013016dd96b275" + "11"},
	} {
		want, err := hex.DecodeString(c.want)
		if err != nil {
			t.Fatal(err)
		}
		if got := write(t, c.l); !bytes.Equal(got, want) {
			t.Errorf("Write of %d cells:\n%x, want\n%x", len(c.l), got, want)
		}
		if got := open(t, want).All(); !slices.Equal(got, c.l) {
			t.Errorf("All: %v, want %v", got, c.l)
		}
	}
}

// P9.1: the whole form, of so many cells that blocks are full and not, and that counts have one byte, two and three.
func TestWriteForm(t *testing.T) {
	for _, n := range []int{1, 2, 7, 8, 9, 15, 16, 17, 64, 127, 128, 1016, 1024, 1025, 16384, mostCells - 1, mostCells} {
		l := cellsOf(n)
		if !bytes.Equal(write(t, l), spell(l).bytes()) {
			t.Errorf("Write of %d cells tells other bytes", n)
		}
	}
	for _, n := range []int{1, 8, 9, 100} {
		l := wideCells(n)
		if !bytes.Equal(write(t, l), spell(l).bytes()) {
			t.Errorf("Write of %d wide cells tells other bytes", n)
		}
	}
	source := rand.New(rand.NewPCG(1, 0))
	for range 500 {
		l := anyCells(source, 60)
		if !bytes.Equal(write(t, l), spell(l).bytes()) {
			t.Fatalf("Write tells other bytes of %#v", l)
		}
	}
}

// P9.1: none, as many as may be, and more; those are ErrArg, also where they have more bytes than a frame.
func TestWriteCounts(t *testing.T) {
	wantRefused(t, "nil", nil, api.ErrArg)
	wantRefused(t, "nothing", []api.Cell{}, api.ErrArg)
	if got := tableOf(t, cellsOf(mostCells)).Len(); got != mostCells {
		t.Errorf("Len: %d", got)
	}
	for _, n := range []int{mostCells + 1, mostCells + 8, 2 * mostCells} {
		wantRefused(t, "too many cells", cellsOf(n), api.ErrArg)
		wantRefused(t, "too many wide cells", wideCells(n), api.ErrArg)
	}
	wantRefused(t, "as many wide cells as may be", wideCells(mostCells), api.ErrFull)
}

// P9.1: keys that fall, and one that comes twice, within a block and from block to block.
func TestWriteNotSorted(t *testing.T) {
	for _, n := range []int{2, 8, 9, 16, 17, 24} {
		for i := range n - 1 {
			l := cellsOf(n)
			l[i], l[i+1] = l[i+1], l[i]
			wantRefused(t, "two cells in the wrong order", l, api.ErrArg)
			l = cellsOf(n)
			l[i] = l[i+1]
			wantRefused(t, "a cell twice", l, api.ErrArg)
			l[i].Version.Time++
			wantRefused(t, "a key twice", l, api.ErrArg)
		}
		l := cellsOf(n)
		l[0], l[n-1] = l[n-1], l[0]
		wantRefused(t, "the last cell first", l, api.ErrArg)
	}
	wide := wideCells(mostCells)
	wide[mostCells-1] = wide[mostCells-2]
	wantRefused(t, "a key twice, among more cells than there is room for", wide, api.ErrArg)
}

// P9.1: one cell that is not good is enough, wherever it stands.
func TestWriteNotGood(t *testing.T) {
	for _, bad := range badCells() {
		if cell.Good(bad) {
			t.Fatalf("%#v is good", bad)
		}
		wantRefused(t, "a bad cell", []api.Cell{bad}, api.ErrArg)
		for _, n := range []int{8, 9, 17} {
			for at := range n {
				l := cellsOf(n)
				k := l[at].Key
				l[at] = bad
				if bad.Key == cellOf(5).Key {
					l[at].Key = k
				}
				wantRefused(t, "a bad cell among others", l, api.ErrArg)
			}
		}
	}
	wide := wideCells(mostCells)
	wide[mostCells-1].Version.Local = 1
	wantRefused(t, "a bad cell among more than there is room for", wide, api.ErrArg)
}

// P9.1: deletions are cells as others; with a value, as a living cell with a local time, they are not good.
func TestWriteDeletions(t *testing.T) {
	l := cellsOf(20)
	for i := range l {
		l[i].Version = api.Version{Time: -i, Dead: true, Local: i - 10}
	}
	if got := tableOf(t, l).All(); !slices.Equal(got, l) {
		t.Errorf("All: %v, want %v", got, l)
	}
	for i := range l {
		for _, v := range []api.Value{{Kind: api.Int}, {N: 1}, {S: "s"}} {
			changed := slices.Clone(l)
			changed[i].Version.Value = v
			wantRefused(t, "a deletion with a value", changed, api.ErrArg)
		}
		changed := slices.Clone(l)
		changed[i] = cellOf(1 + i)
		changed[i].Version.Local = i - 100
		wantRefused(t, "a living cell with a local time", changed, api.ErrArg)
	}
}

// withIndex: cells whose index's content has just so many bytes.
func withIndex(t *testing.T, size int) []api.Cell {
	t.Helper()
	l := wideCells(8)
	each := len(spell(l).index) - 1
	// Two blocks of lesser keys are left to fill what is not a multiple; the count of blocks has two bytes.
	blocks := (size-2)/each - 1
	l = wideCells(8 * blocks)
	rest := size - 2 - each*blocks
	half := rest / 2
	for i, want := range []int{half, rest - half} {
		l = append(l, fillers(t, "b"+string(rune('a'+i)), want)...)
	}
	if got := len(spell(l).index); got != size {
		t.Fatalf("an index of %d bytes, want %d", got, size)
	}
	return l
}

// fillers: a block of cells of one table, of which the index tells in just so many bytes.
func fillers(t *testing.T, name string, size int) []api.Cell {
	t.Helper()
	for zeros := range api.MaxText {
		for ones := 1; ones+zeros <= api.MaxText; ones++ {
			part := strings.Repeat("\x00", zeros) + strings.Repeat("x", ones)
			l := wideCells(8)
			// Each size from 128 on, as that of a block of wide cells, has two bytes there.
			if k := (api.Key{Table: name, Part: part, Column: l[0].Key.Column}); len(entry(k, 128)) != size {
				continue
			}
			for i := range l {
				l[i].Key.Table, l[i].Key.Part = name, part
			}
			return l
		}
	}
	t.Fatalf("no fillers of %d bytes", size)
	return nil
}

// P9.1: a frame has its head, too: with that the index's may have MaxFrame bytes, and no more.
func TestWriteFull(t *testing.T) {
	const most = api.MaxFrame - 8
	l := withIndex(t, most)
	want := spell(l)
	if n := len(frame(want.index)); n != api.MaxFrame {
		t.Fatalf("the index's frame has %d bytes", n)
	}
	b := write(t, l)
	if !bytes.Equal(b, want.bytes()) {
		t.Error("Write with the greatest index tells other bytes")
	}
	if !slices.Equal(open(t, b).All(), l) {
		t.Error("Open with the greatest index tells other cells")
	}
	for _, size := range []int{most + 1, most + 8, most + 9} {
		l := withIndex(t, size)
		wantRefused(t, "cells of which the index has too many bytes", l, api.ErrFull)
		wantCorrupt(t, "an index of too many bytes", spell(l).bytes())
	}
}

// P9.1: no block and no filter ever comes near the bound that a frame has.
func TestWriteGreatest(t *testing.T) {
	if n := len(frame(blockOf(wideCells(8)))); n > api.MaxFrame/100 {
		t.Errorf("the widest block has %d bytes", n)
	}
	if n := len(frame(filterOf(cellsOf(mostCells)).Bytes())); n > api.MaxFrame/10 {
		t.Errorf("the greatest filter has %d bytes", n)
	}
}

// R4: Write tells the same each time.
func TestWriteAgain(t *testing.T) {
	l := anyCells(rand.New(rand.NewPCG(2, 0)), 100)
	first := write(t, l)
	for range 3 {
		if !bytes.Equal(write(t, l), first) {
			t.Error("Write tells other bytes of the same cells")
		}
	}
}
