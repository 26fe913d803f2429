package engine

import (
	"slices"
	"testing"

	"skerry/api"
	"skerry/disk"
)

func one(row int) []api.Cell {
	return []api.Cell{{Key: api.Key{Table: "t", Part: "p", Row: row}}}
}

// kept: where the merged cells of the engine's state stand.
func kept(t *testing.T, e *Engine) *api.Cell {
	t.Helper()
	l := e.now.all()
	if len(l) == 0 {
		t.Fatal("no cells")
	}
	return &l[0]
}

func wantStates(t *testing.T, e *Engine, states int64) {
	t.Helper()
	if got := e.states.Load(); got != states {
		t.Errorf("%d states, want %d", got, states)
	}
}

// Ways: a state is entered by Open and by each change, and by nothing else.
func TestStates(t *testing.T) {
	d := disk.New(1000)
	e, _ := Open(d, nil, 3, 2)
	wantStates(t, e, 1)
	e.Apply(nil)
	e.Flush()
	e.Compact(0, 0)
	e.All()
	e.Part("t", "p")
	wantStates(t, e, 1)
	e.Apply(one(1))
	wantStates(t, e, 2)
	e.Apply(one(2))
	wantStates(t, e, 3)
	e.Apply(one(3))
	wantStates(t, e, 5) // and memory was flushed
	e.Apply(one(4))
	e.Flush()
	wantStates(t, e, 7)
	e.Compact(0, 0)
	wantStates(t, e, 8)
	d.Arm(1, 0)
	e.Apply(one(5))
	wantStates(t, e, 8)
	d.Start()
	e, _ = Open(d, nil, 3, 2)
	wantStates(t, e, 1)
	if len(e.All()) != 4 {
		t.Errorf("All: %v", e.All())
	}
}

// Ways: the cells are merged once for each state, however often they are asked for.
func TestMergedOnce(t *testing.T) {
	e, _ := Open(disk.New(1000), nil, 3, 2)
	e.Apply(one(1))
	first := kept(t, e)
	for range 3 {
		e.Part("t", "p")
		if all := e.All(); &all[0] == first {
			t.Error("All hands out what is kept")
		}
		if kept(t, e) != first {
			t.Error("the cells were merged again")
		}
	}
	changes := []func(){
		func() { e.Apply(one(2)) },
		func() { e.Flush() },
		func() { e.Apply(one(3)) },
		func() { e.Flush() },
		func() { e.Compact(0, 0) },
	}
	for i, change := range changes {
		before := kept(t, e)
		change()
		if kept(t, e) == before {
			t.Errorf("change %d: the cells of the state before it are kept", i)
		}
	}
}

func wantHeights(t *testing.T, e *Engine, heights ...int) {
	t.Helper()
	if got := e.now.memory.Heights(); !slices.Equal(got, heights) {
		t.Errorf("Heights: %v, want %v", got, heights)
	}
}

// P14.1, P14.3: each memory has the given levels, from the first of them on, whatever became of the caller's list.
func TestLevelsOfEachMemory(t *testing.T) {
	d := disk.New(1000)
	given := []int{3, 1, 2}
	e, _ := Open(d, given, 400, 2)
	clear(given)
	for range 3 {
		for row := range 4 {
			wantHeights(t, e, []int{3, 1, 2, 3}[:row]...)
			e.Apply(one(row))
		}
		wantHeights(t, e, 3, 1, 2, 3)
		e.Flush()
		wantHeights(t, e)
	}
	e.Apply(one(1))
	e.Apply(one(0))
	e, _ = Open(d, []int{5, 6}, 400, 2)
	wantHeights(t, e, 6, 5)
}
