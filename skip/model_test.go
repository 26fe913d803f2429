package skip_test

import (
	"iter"
	"math/rand/v2"
	"slices"
	"testing"

	"skerry/api"
	"skerry/cell"
	"skerry/key"
	"skerry/skip"
)

// model is a slow list: all that was put, and the keys as they came in.
type model struct {
	levels []int
	put    []api.Cell
	keys   []api.Key
}

func (m *model) add(c api.Cell) api.Errno {
	if !cell.Good(c) {
		return api.ErrArg
	}
	m.put = append(m.put, c)
	if !slices.Contains(m.keys, c.Key) {
		m.keys = append(m.keys, c.Key)
	}
	return api.OK
}

func (m *model) heights() []int {
	var out []int
	for _, c := range cell.Norm(m.put) {
		h := 1
		if len(m.levels) > 0 {
			h = m.levels[slices.Index(m.keys, c.Key)%len(m.levels)]
		}
		out = append(out, max(1, min(h, 8)))
	}
	return out
}

func (m *model) scan(from, until api.Key) []api.Cell {
	return slices.DeleteFunc(cell.Norm(m.put), func(c api.Cell) bool {
		return key.Cmp(c.Key, from) < 0 || key.Cmp(c.Key, until) >= 0
	})
}

func anyOf[T any](source *rand.Rand, l []T) T {
	return l[source.IntN(len(l))]
}

// anyKey: of few texts, so that keys come again; a few of them may not be.
func anyKey(source *rand.Rand) api.Key {
	k := api.Key{Table: anyOf(source, []string{"t", "u"}), Part: anyOf(source, []string{"p", "p\x00", "\xff"}), Row: source.IntN(5) - 2, Column: anyOf(source, []string{"", "a", "b", "ab"})}
	if source.IntN(20) == 0 {
		k.Table = "T"
	}
	return k
}

// anyCell: of few versions, so that many are alike; a mark has no value, and what is none of a mark is refused there.
func anyCell(source *rand.Rand) api.Cell {
	v := live(source.IntN(4), source.IntN(3))
	switch source.IntN(4) {
	case 0:
		v = dead(source.IntN(4), source.IntN(3))
	case 1:
		v.Value = api.Value{Kind: api.Str, S: anyOf(source, []string{"", "a", "b"})}
	case 2:
		v.Value = api.Value{}
	}
	return api.Cell{Key: anyKey(source), Version: v}
}

func anyLevels(source *rand.Rand) []int {
	l := make([]int, source.IntN(8))
	for i := range l {
		l[i] = source.IntN(12) - 1
	}
	return l
}

type oldScan struct {
	got  iter.Seq[api.Cell]
	want []api.Cell
}

// P6.1, P6.2, P6.3: random calls against the slow list; scans are gone over when much was put behind them.
func TestAgainstModel(t *testing.T) {
	for seed := range uint64(60) {
		source := rand.New(rand.NewPCG(seed, 0))
		m := &model{levels: anyLevels(source)}
		l := skip.New(m.levels)
		var scans []oldScan
		for range 150 {
			c := anyCell(source)
			if got, want := l.Put(c), m.add(c); got != want {
				t.Fatalf("seed %d: Put(%#v): %v, want %v", seed, c, got, want)
			}
			k := anyKey(source)
			want, there := cell.Find(cell.Norm(m.put), k)
			wantGet(t, l, k, want, there)
			from, until := anyKey(source), anyKey(source)
			scan := oldScan{l.Scan(from, until), m.scan(from, until)}
			wantScan(t, "Scan", scan.got, scan.want)
			scans = append(scans, scan)
			if l.Len() != len(m.keys) {
				t.Fatalf("seed %d: Len: %d, want %d", seed, l.Len(), len(m.keys))
			}
		}
		wantCells(t, "All", l.All(), cell.Norm(m.put))
		wantHeights(t, l, m.heights())
		for _, s := range scans {
			wantScan(t, "an old Scan", s.got, s.want)
		}
	}
}

// P6.3: in whatever order and how often cells are put, and whatever the levels, All is Norm of them.
func TestAllIsNorm(t *testing.T) {
	source := rand.New(rand.NewPCG(100, 0))
	for range 200 {
		cells := make([]api.Cell, source.IntN(80))
		for i := range cells {
			cells[i] = anyCell(source)
		}
		cells = slices.DeleteFunc(cells, func(c api.Cell) bool { return !cell.Good(c) })
		want := cell.Norm(cells)
		for range 4 {
			mixed := append(slices.Clone(cells), cells[:source.IntN(len(cells)+1)]...)
			source.Shuffle(len(mixed), func(i, j int) { mixed[i], mixed[j] = mixed[j], mixed[i] })
			l := skip.New(anyLevels(source))
			put(t, l, mixed...)
			wantCells(t, "All", l.All(), want)
		}
	}
}

// P6.1, P6.2: many cells, in the order of their keys, against it and mixed.
func TestManyCells(t *testing.T) {
	const n = 20000
	var rising []api.Cell
	for i := range n {
		rising = append(rising, api.Cell{Key: api.Key{Table: "t", Part: "p", Row: i - n/2, Column: "c"}, Version: live(i, i)})
	}
	falling := slices.Clone(rising)
	slices.Reverse(falling)
	mixed := slices.Clone(rising)
	source := rand.New(rand.NewPCG(101, 0))
	source.Shuffle(n, func(i, j int) { mixed[i], mixed[j] = mixed[j], mixed[i] })
	for _, order := range [][]api.Cell{rising, falling, mixed} {
		l := skip.New(halves(256))
		put(t, l, order...)
		wantCells(t, "All", l.All(), rising)
		for i := 0; i < n; i += 97 {
			wantGet(t, l, rising[i].Key, rising[i].Version, true)
			until := min(i+50, n-1)
			wantScan(t, "Scan", l.Scan(rising[i].Key, rising[until].Key), rising[i:until])
		}
	}
}

// halves: levels of which each is half as often there as the one below it.
func halves(n int) []int {
	l := make([]int, n)
	for i := range l {
		for l[i] = 1; i>>(l[i]-1)&1 == 1; l[i]++ {
		}
	}
	return l
}
