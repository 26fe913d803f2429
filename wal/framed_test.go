package wal

import (
	"bytes"
	"testing"

	"skerry/api"
	"skerry/codec"
)

// P7.1: so few good cells never have more bytes than a frame takes, so this is looked at from inside.
func TestFramed(t *testing.T) {
	for _, n := range []int{0, 1, api.MaxFrame - 1, api.MaxFrame} {
		content := bytes.Repeat([]byte{7}, n)
		if b, e := framed(content); e != api.OK || !bytes.Equal(b, codec.Frame(content)) {
			t.Errorf("of %d bytes: %d bytes, %v", n, len(b), e)
		}
	}
	for _, n := range []int{api.MaxFrame + 1, 2 * api.MaxFrame} {
		if b, e := framed(make([]byte, n)); len(b) != 0 || e != api.ErrFull {
			t.Errorf("of %d bytes: %d bytes, %v, want none, %v", n, len(b), e, api.ErrFull)
		}
	}
}

// R3: what is told may be left at each place, and gone over again.
func TestRecordsAreLeft(t *testing.T) {
	one := api.Cell{Key: api.Key{Table: "t", Part: "p"}}
	record, _ := Record([]api.Cell{one})
	told := records(bytes.Repeat(record, 3))
	for most := 1; most <= 3; most++ {
		var ends []int
		for cells, end := range told {
			if len(cells) != 1 || cells[0] != one {
				t.Errorf("told %v", cells)
			}
			ends = append(ends, end)
			if len(ends) == most {
				break
			}
		}
		if len(ends) != most || ends[most-1] != most*len(record) {
			t.Errorf("left behind %d: %v", most, ends)
		}
	}
}
