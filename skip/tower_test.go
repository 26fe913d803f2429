package skip

import (
	"slices"
	"testing"

	"skerry/api"
)

// On each level all towers that are high enough are linked, in the order of their keys: no call's answer tells of it, only how long it takes.
func TestTowersAreLinked(t *testing.T) {
	levels := []int{3, 1, 8, 2, 5, 4, 7, 6, 1}
	const n = 50
	l := New(levels)
	heights := make([]int, n)
	for i := range n {
		row := i * 7 % n
		heights[row] = levels[i%len(levels)]
		l.Put(api.Cell{Key: api.Key{Table: "t", Part: "p", Row: row}})
	}
	for level := range api.MaxLevel {
		var got, want []int
		for at := l.head.next[level]; at != nil; at = at.next[level] {
			got = append(got, at.cell.Key.Row)
		}
		for row, h := range heights {
			if h > level {
				want = append(want, row)
			}
		}
		if !slices.Equal(got, want) {
			t.Errorf("level %d: %v, want %v", level, got, want)
		}
	}
}

// Of each level the last tower ahead of a key, as a tower that is put in there is linked behind it.
func TestBefore(t *testing.T) {
	l := New([]int{1, 8, 2})
	for row := range 6 {
		l.Put(api.Cell{Key: api.Key{Table: "t", Part: "p", Row: row}})
	}
	before := l.before(api.Key{Table: "t", Part: "p", Row: 4})
	for level, want := range []int{3, 2, 1, 1, 1, 1, 1, 1} {
		if got := before[level].cell.Key.Row; got != want {
			t.Errorf("level %d: %d, want %d", level, got, want)
		}
	}
	for level, tower := range l.before(api.Key{}) {
		if tower != l.head {
			t.Errorf("level %d: not the head", level)
		}
	}
}
