package table_test

import (
	"bytes"
	"slices"
	"testing"

	"skerry/api"
	"skerry/table"
)

// spoil changes a list and the room behind its end.
func spoil[T any](l []T, x T) {
	l = l[:cap(l)]
	for i := range l {
		l[i] = x
	}
}

// withRoom: a list that has others behind its end, in the room of its own memory.
func withRoom[T any](l []T, others ...T) (part, whole []T) {
	whole = slices.Concat(l, others)
	return whole[:len(l)], whole
}

// R3: neither Write's cells nor the room behind them are changed or kept, and what is told is new.
func TestWriteMemory(t *testing.T) {
	for _, n := range []int{1, 8, 9, 100} {
		l, whole := withRoom(cellsOf(n), cellOf(0), api.Cell{})
		before := slices.Clone(whole)
		want := write(t, l)
		first, second := write(t, l), write(t, l)
		if !slices.Equal(whole, before) {
			t.Error("Write changed its argument")
		}
		spoil(first, 77)
		if !bytes.Equal(second, want) || !slices.Equal(whole, before) {
			t.Error("what Write tells is shared")
		}
		spoil(whole, api.Cell{})
		if !bytes.Equal(second, want) {
			t.Error("Write keeps its argument")
		}
	}
	l, whole := withRoom(append(cellsOf(3), cellOf(2)), cellOf(9))
	before := slices.Clone(whole)
	wantRefused(t, "cells that are not sorted", l, api.ErrArg)
	if !slices.Equal(whole, before) {
		t.Error("Write changed cells that it refuses")
	}
}

// R3: neither Open's bytes nor the room behind them are changed, looked at or kept.
func TestOpenMemory(t *testing.T) {
	for _, n := range []int{1, 8, 9, 100} {
		l := cellsOf(n)
		b, whole := withRoom(write(t, l), 1, 2, 3)
		before := bytes.Clone(whole)
		x, other := open(t, b), open(t, b)
		wantTable(t, x, l)
		if !bytes.Equal(whole, before) {
			t.Error("Open changed its argument")
		}
		spoil(whole, 77)
		wantTable(t, x, l)
		wantTable(t, other, l)
	}
	b, whole := withRoom(write(t, cellsOf(9))[:50], 1, 2, 3)
	before := bytes.Clone(whole)
	wantCorrupt(t, "a beginning", b)
	if !bytes.Equal(whole, before) {
		t.Error("Open changed bytes that it refuses")
	}
}

// R3: a caller may change what All and Scan told, and their spare room.
func TestAnswerMemory(t *testing.T) {
	l := cellsOf(30)
	x := tableOf(t, l)
	answers := []func() []api.Cell{
		x.All,
		func() []api.Cell { return x.Scan(api.Key{}, api.Key{Table: "u"}) },
		func() []api.Cell { return x.Scan(l[0].Key, l[29].Key) },
		func() []api.Cell { return x.Scan(l[5].Key, l[20].Key) },
		func() []api.Cell { return x.Scan(l[8].Key, l[16].Key) },
		func() []api.Cell { return x.Scan(l[8].Key, l[8].Key) },
		func() []api.Cell { return x.Scan(l[9].Key, l[3].Key) },
		func() []api.Cell { return x.Scan(api.Key{}, api.Key{}) },
	}
	for _, answer := range answers {
		first, second := answer(), answer()
		want := slices.Clone(second)
		spoil(first, api.Cell{})
		if !slices.Equal(second, want) || !slices.Equal(answer(), want) {
			t.Error("two answers share memory")
		}
		wantTable(t, x, l)
		_ = append(second[:0], make([]api.Cell, len(l))...)
		wantTable(t, x, l)
	}
}

// R3 and R4: tables stand apart, and a table's copy tells the same.
func TestTablesApart(t *testing.T) {
	x, y := tableOf(t, cellsOf(9)), tableOf(t, cellsOf(20))
	wantTable(t, x, cellsOf(9))
	wantTable(t, y, cellsOf(20))
	same := *y
	wantTable(t, &same, cellsOf(20))
	var none table.Table
	none.All()
	wantTable(t, x, cellsOf(9))
}
