package table_test

import (
	"bytes"
	"math"
	"math/rand/v2"
	"slices"
	"strings"
	"testing"

	"skerry/api"
	"skerry/key"
	"skerry/table"
)

// slowGet goes through all cells.
func slowGet(l []api.Cell, k api.Key) (api.Version, bool) {
	for _, c := range l {
		if c.Key == k {
			return c.Version, true
		}
	}
	return api.Version{}, false
}

// slowScan goes through all cells, and compares keys by their bytes.
func slowScan(l []api.Cell, from, until api.Key) []api.Cell {
	var out []api.Cell
	low, high := key.Bytes(from), key.Bytes(until)
	for _, c := range l {
		if b := key.Bytes(c.Key); bytes.Compare(b, low) >= 0 && bytes.Compare(b, high) < 0 {
			out = append(out, c)
		}
	}
	return out
}

func wantGet(t *testing.T, x *table.Table, k api.Key, want api.Version, there bool) {
	t.Helper()
	if v, ok := x.Get(k); v != want || ok != there {
		t.Errorf("Get(%v): %v, %v, want %v, %v", k, v, ok, want, there)
	}
}

func wantScan(t *testing.T, x *table.Table, from, until api.Key, want []api.Cell) {
	t.Helper()
	if got := x.Scan(from, until); !slices.Equal(got, want) {
		t.Errorf("Scan(%v, %v): %v, want %v", from, until, got, want)
	}
}

// wantTable: it has just these cells.
func wantTable(t *testing.T, x *table.Table, l []api.Cell) {
	t.Helper()
	if got := x.All(); !slices.Equal(got, l) {
		t.Errorf("All: %v, want %v", got, l)
	}
	if got := x.Len(); got != len(l) {
		t.Errorf("Len: %d, want %d", got, len(l))
	}
	if got, want := x.Blocks(), len(spell(l).blocks); got != want {
		t.Errorf("Blocks of %d cells: %d, want %d", len(l), got, want)
	}
	first, last, ok := x.Ends()
	if !ok || first != l[0].Key || last != l[len(l)-1].Key {
		t.Errorf("Ends: %v, %v, %v", first, last, ok)
	}
	for _, c := range l {
		wantGet(t, x, c.Key, c.Version, true)
		if !x.May(c.Key) {
			t.Errorf("May(%v) of a key that is there: false", c.Key)
		}
	}
}

// oddKeys: those that no cell may have, and the least and the greatest.
func oddKeys() []api.Key {
	long := strings.Repeat("z", 1000)
	return []api.Key{
		{},
		{Table: "t"},
		{Table: "t", Part: "p", Row: 4, Column: "C"},
		{Table: "t", Part: "p", Row: 4, Column: "c\x00"},
		{Table: "T", Part: "p", Row: 4, Column: "c"},
		{Table: "t", Part: "", Row: 4, Column: "c"},
		{Table: "t\x00", Part: "p", Row: 4, Column: "c"},
		{Table: "t", Part: long, Row: 4, Column: "c"},
		{Table: "\xff", Part: "\xff", Row: math.MaxInt, Column: "\xff"},
		{Table: long, Part: long, Row: math.MinInt, Column: long},
		{Row: math.MinInt},
		{Row: math.MaxInt},
	}
}

// P9.2: all calls, of as many cells as blocks are full with, and one less and more.
func TestTableCounts(t *testing.T) {
	for n := 1; n <= 50; n++ {
		wantTable(t, tableOf(t, cellsOf(n)), cellsOf(n))
	}
	for _, n := range []int{mostCells - 1, mostCells} {
		wantTable(t, tableOf(t, cellsOf(n)), cellsOf(n))
	}
	for cells, want := range map[int]int{1: 1, 7: 1, 8: 1, 9: 2, 15: 2, 16: 2, 17: 3, 19999: 2500, 20000: 2500} {
		if got := tableOf(t, cellsOf(cells)).Blocks(); got != want {
			t.Errorf("Blocks of %d cells: %d, want %d", cells, got, want)
		}
	}
}

// P9.2: a key ahead of all, between two, behind all, and one that is no good key.
func TestGetNone(t *testing.T) {
	for n := 1; n <= 30; n++ {
		x := tableOf(t, cellsOf(n))
		for i := range n + 2 {
			k := cellOf(i).Key
			k.Row++
			wantGet(t, x, k, api.Version{}, false)
			k.Row--
			k.Column = ""
			wantGet(t, x, k, api.Version{}, false)
		}
		wantGet(t, x, cellOf(0).Key, api.Version{}, false)
		wantGet(t, x, cellOf(n+1).Key, api.Version{}, false)
		for _, k := range oddKeys() {
			wantGet(t, x, k, api.Version{}, false)
		}
	}
}

// P9.2: May is what the filter says, of keys that are there and that are not.
func TestMay(t *testing.T) {
	source := rand.New(rand.NewPCG(3, 0))
	yes, no := 0, 0
	for range 200 {
		l := anyCells(source, 40)
		x, f := tableOf(t, l), filterOf(l)
		keys := append(oddKeys(), cellOf(0).Key, cellOf(1000).Key)
		for range 100 {
			keys = append(keys, anyKey(source))
		}
		for _, k := range keys {
			want := f.May(key.Bytes(k))
			if got := x.May(k); got != want {
				t.Fatalf("May(%v): %v, want %v", k, got, want)
			}
			if _, there := x.Get(k); want && !there {
				yes++
			} else if !want {
				no++
			}
		}
	}
	if yes < 50 || no < 1000 {
		t.Errorf("May was true of %d keys that were not there, and false of %d: too few to tell", yes, no)
	}
}

// P9.2: bounds at each cell, between each two, ahead of all and behind all, alike and in the wrong order.
func TestScanBounds(t *testing.T) {
	for _, n := range []int{1, 2, 7, 8, 9, 16, 17, 25} {
		l := cellsOf(n)
		x := tableOf(t, l)
		bounds := []api.Key{{}, {Table: "s", Part: "p"}, {Table: "t", Part: "p", Row: math.MaxInt, Column: "c"}, {Table: "u", Part: "p"}}
		for i := range n + 2 {
			k := cellOf(i).Key
			bounds = append(bounds, k)
			k.Row++
			bounds = append(bounds, k)
		}
		for _, from := range bounds {
			for _, until := range bounds {
				wantScan(t, x, from, until, slowScan(l, from, until))
			}
		}
	}
}

// P9.2: some of them by hand.
func TestScanKnown(t *testing.T) {
	l := cellsOf(20)
	x := tableOf(t, l)
	at := func(row int) api.Key { return api.Key{Table: "t", Part: "p", Row: row, Column: "c"} }
	for _, c := range []struct {
		what        string
		from, until api.Key
		want        []api.Cell
	}{
		{"all", api.Key{}, api.Key{Table: "u"}, l},
		{"all but the last", at(2), at(40), l[:19]},
		{"alike, at a cell", at(6), at(6), nil},
		{"alike, between two", at(7), at(7), nil},
		{"the wrong order", at(20), at(4), nil},
		{"the wrong order, ahead and behind", api.Key{Table: "u"}, api.Key{}, nil},
		{"ahead of all", api.Key{}, at(2), nil},
		{"behind all", at(41), at(100), nil},
		{"from a block's first cell on", at(18), at(24), l[8:11]},
		{"till a block's first cell", at(12), at(18), l[5:8]},
		{"a block", at(18), at(34), l[8:16]},
		{"within a block", at(22), at(28), l[10:13]},
		{"one cell", at(22), at(23), l[10:11]},
		{"between two", at(23), at(24), nil},
		{"over blocks", at(15), at(36), l[7:17]},
	} {
		if got := x.Scan(c.from, c.until); !slices.Equal(got, c.want) {
			t.Errorf("Scan of %s: %v, want %v", c.what, got, c.want)
		}
	}
}

// P9.2: cells of all kinds against slow forms, with bounds that are keys of the table, and that are not.
func TestTableByWords(t *testing.T) {
	source := rand.New(rand.NewPCG(4, 0))
	found := 0
	for range 300 {
		l := anyCells(source, 100)
		x := tableOf(t, l)
		wantTable(t, x, l)
		choose := func() api.Key {
			switch source.IntN(8) {
			case 0:
				return oddKeys()[source.IntN(len(oddKeys()))]
			case 1, 2, 3:
				return anyKey(source)
			}
			return l[source.IntN(len(l))].Key
		}
		for range 30 {
			k := choose()
			v, ok := slowGet(l, k)
			wantGet(t, x, k, v, ok)
			from, until := choose(), choose()
			want := slowScan(l, from, until)
			wantScan(t, x, from, until, want)
			if len(want) > 8 {
				found++
			}
		}
	}
	if found < 500 {
		t.Errorf("%d scans over a block: too few to tell", found)
	}
}

// P9.2: the same table answers the same each time.
func TestTableAgain(t *testing.T) {
	l := anyCells(rand.New(rand.NewPCG(5, 0)), 60)
	x := tableOf(t, l)
	for range 3 {
		wantTable(t, x, l)
		wantScan(t, x, l[3].Key, l[20].Key, l[3:20])
	}
}

// P9.2 and R5
func TestNotMade(t *testing.T) {
	wrong, _ := table.Open(nil)
	for _, x := range []*table.Table{nil, {}, new(table.Table), wrong} {
		if x.Len() != 0 || x.Blocks() != 0 || len(x.All()) != 0 {
			t.Errorf("Len %d, Blocks %d, All %v", x.Len(), x.Blocks(), x.All())
		}
		if first, last, ok := x.Ends(); ok || first != (api.Key{}) || last != (api.Key{}) {
			t.Errorf("Ends: %v, %v, %v", first, last, ok)
		}
		for _, k := range append(oddKeys(), cellOf(1).Key) {
			wantGet(t, x, k, api.Version{}, false)
			if x.May(k) {
				t.Errorf("May(%v): true", k)
			}
			wantScan(t, x, api.Key{}, k, nil)
			wantScan(t, x, k, api.Key{}, nil)
			wantScan(t, x, k, k, nil)
		}
	}
}
