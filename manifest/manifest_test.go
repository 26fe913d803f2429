package manifest_test

import (
	"fmt"
	"math"
	"slices"
	"strings"
	"testing"

	"skerry/api"
	"skerry/disk"
	"skerry/manifest"
)

const (
	top      = 999999999
	tablesUp = 30
)

// of: a manifest with its tables behind its numbers.
func of(next, from int, tables ...int) manifest.Manifest {
	return manifest.Manifest{Tables: tables, Next: next, From: from}
}

// run: the numbers from first to last.
func run(first, last int) []int {
	var l []int
	for n := first; n <= last; n++ {
		l = append(l, n)
	}
	return l
}

func same(a, b manifest.Manifest) bool {
	return slices.Equal(a.Tables, b.Tables) && a.Next == b.Next && a.From == b.From
}

func want[T comparable](t *testing.T, what string, got, wanted T) {
	t.Helper()
	if got != wanted {
		t.Errorf("%s: %v, want %v", what, got, wanted)
	}
}

// must: what a test builds on, so that it ends where that fails.
func must(t *testing.T, e api.Errno) {
	t.Helper()
	if e != api.OK {
		t.Fatalf("a call answered %v", e)
	}
}

// ends: numbers at the ends of what may be, and of ints.
func ends() []int {
	return []int{
		math.MinInt, math.MinInt + 1, -1 << 32, -top, -2, -1, 0, 1, 2, 3, 127, 128, 300, top - 1, top, top + 1,
		1 << 30, 1<<32 - 1, 1 << 32, 1<<32 + 1, 1<<32 + 5, math.MaxInt - 1, math.MaxInt,
	}
}

// goodOnes: manifests that may be.
func goodOnes() []manifest.Manifest {
	return []manifest.Manifest{
		manifest.Begin(),
		of(1, 1),
		of(1, top),
		of(top, 1),
		of(top, top),
		of(2, 1, 1),
		of(2, 3, 1),
		of(3, 1, 1),
		of(3, 1, 2),
		of(3, 1, 1, 2),
		of(3, 1, 2, 1),
		of(128, 127, 127, 1, 126),
		of(129, 128, 128, 127),
		of(20000, 16384, 16383, 16384, 1),
		of(top, 7, top-1),
		of(top, 7, 1, top-1, 2),
		of(31, 1, run(1, 30)...),
		of(32, 9, run(2, 31)...),
		of(top, top, run(top-30, top-1)...),
		of(1000, 5, slices.Concat(run(500, 514), run(1, 15))...),
	}
}

// badOnes: manifests that may not be.
func badOnes() []manifest.Manifest {
	bad := []manifest.Manifest{
		{},
		of(1, 0),
		of(0, 1),
		of(1, 1, 1),
		of(1, 1, 0),
		of(2, 1, 2),
		of(2, 1, 3),
		of(2, 1, 0),
		of(2, 1, -1),
		of(2, 1, math.MinInt),
		of(2, 1, math.MaxInt),
		of(2, 1, 1<<32+1),
		of(2, 0, 1),
		of(math.MinInt, 1, 1),
		of(3, 1, 1, 1),
		of(3, 1, 2, 2),
		of(9, 1, 1, 2, 1),
		of(9, 1, 5, 8, 7, 8),
		of(9, 1, 1, 2, 9),
		of(9, 1, 9, 1, 2),
		of(9, 1, 1, 0, 2),
		of(top, 1, top),
		of(top+1, 1, 1),
		of(top+1, 1, top),
		of(top, top+1, 1),
		of(32, 1, run(1, 31)...),
		of(1000, 1, run(1, 31)...),
		of(1000, 1, run(1, 999)...),
		of(31, 1, slices.Concat(run(1, 29), run(29, 29))...),
		of(31, 1, slices.Concat(run(1, 29), run(1, 1))...),
		of(30, 1, run(1, 30)...),
	}
	for _, n := range ends() {
		if n < 1 || n > top {
			bad = append(bad, of(n, 1), of(1, n), of(n, n), of(n, 1, 1), of(n, 1, n-1))
		}
	}
	return bad
}

// slowGood puts the tables in order on a copy, and looks at neighbours.
func slowGood(m manifest.Manifest) bool {
	tables := slices.Clone(m.Tables)
	slices.Sort(tables)
	for i, n := range tables {
		if i > 0 && n == tables[i-1] {
			return false
		}
	}
	if n := len(tables); n > 0 && (tables[0] <= 0 || tables[n-1] >= m.Next) {
		return false
	}
	return len(tables) < 31 && min(m.Next, m.From) > 0 && max(m.Next, m.From) < 1000000000
}

// P13.1
func TestGood(t *testing.T) {
	for _, m := range goodOnes() {
		want(t, fmt.Sprintf("Good(%v)", m), manifest.Good(m), true)
	}
	for _, m := range badOnes() {
		want(t, fmt.Sprintf("Good(%v)", m), manifest.Good(m), false)
	}
}

// P13.1: nil and no tables are the same.
func TestGoodWithoutTables(t *testing.T) {
	for _, tables := range [][]int{nil, {}, run(1, 9)[:0]} {
		want(t, "Good", manifest.Good(manifest.Manifest{Tables: tables, Next: 1, From: 1}), true)
		want(t, "Good", manifest.Good(manifest.Manifest{Tables: tables, Next: 0, From: 1}), false)
	}
}

// P13.1: each pair of numbers at the ends, with no table and with each.
func TestGoodAtEnds(t *testing.T) {
	for _, next := range ends() {
		for _, from := range ends() {
			m := of(next, from)
			want(t, fmt.Sprintf("Good(%v)", m), manifest.Good(m), slowGood(m))
			for _, n := range slices.Concat(ends(), run(max(next, -top)-2, min(max(next, -top), top)+1)) {
				m := of(next, from, n)
				if manifest.Good(m) != slowGood(m) {
					t.Fatalf("Good(%v): %v", m, !slowGood(m))
				}
			}
		}
	}
}

// P13.1: all lists of up to five tables of a few numbers.
func TestGoodOfFewTables(t *testing.T) {
	good := 0
	for next := -1; next <= 5; next++ {
		for _, tables := range words(5, -1, 0, 1, 2, 3, 4, 5) {
			m := of(next, 1, tables...)
			if manifest.Good(m) != slowGood(m) {
				t.Fatalf("Good(%v): %v", m, !slowGood(m))
			}
			if slowGood(m) {
				good++
			}
		}
	}
	// Of k numbers there are so many lists of unlike ones: 1, 2, 5, 16, 65.
	want(t, "how many are good", good, 1+2+5+16+65)
}

// words: all lists of up to so many of the letters.
func words(most int, letters ...int) [][]int {
	all := [][]int{nil}
	last := all
	for range most {
		var longer [][]int
		for _, w := range last {
			for _, n := range letters {
				longer = append(longer, append(slices.Clone(w), n))
			}
		}
		all = append(all, longer...)
		last = longer
	}
	return all
}

// P13.1: two tables alike, wherever they stand.
func TestGoodOfTwoAlike(t *testing.T) {
	for i := range tablesUp {
		for j := range tablesUp {
			m := of(1000, 1, run(101, 130)...)
			m.Tables[i] = m.Tables[j]
			want(t, fmt.Sprintf("Good with %d like %d", i, j), manifest.Good(m), i == j)
		}
	}
}

// P13.1: one table that may not be, wherever it stands.
func TestGoodOfOneOutside(t *testing.T) {
	for i := range tablesUp {
		for _, n := range []int{-1, 0, 1000, 1001, math.MinInt, math.MaxInt} {
			m := of(1000, 1, run(101, 130)...)
			m.Tables[i] = n
			want(t, fmt.Sprintf("Good with %d at %d", n, i), manifest.Good(m), false)
		}
		for _, n := range []int{1, 999} {
			m := of(1000, 1, run(101, 130)...)
			m.Tables[i] = n
			want(t, fmt.Sprintf("Good with %d at %d", n, i), manifest.Good(m), true)
		}
	}
}

// P13.1: 30 tables, and no more; a long list ends soon.
func TestGoodOfManyTables(t *testing.T) {
	for n := range 100 {
		want(t, fmt.Sprintf("Good of %d tables", n), manifest.Good(of(top, 1, run(1, n)...)), n <= 30)
	}
	want(t, "Good of a great list", manifest.Good(of(top, 1, run(1, 1<<21)...)), false)
}

// P13.1
func TestBegin(t *testing.T) {
	m := manifest.Begin()
	if len(m.Tables) != 0 || m.Next != 1 || m.From != 1 {
		t.Errorf("Begin: %v", m)
	}
	want(t, "Good(Begin())", manifest.Good(m), true)
}

// P13.1
func TestFile(t *testing.T) {
	for n, name := range map[int]string{
		1: "tab-1", 2: "tab-2", 9: "tab-9", 10: "tab-10", 47: "tab-47", 100: "tab-100", 12345: "tab-12345",
		100000000: "tab-100000000", top - 1: "tab-999999998", top: "tab-999999999",
	} {
		want(t, fmt.Sprintf("File(%d)", n), manifest.File(n), name)
	}
	for _, n := range ends() {
		wanted := ""
		if n > 0 && n < 1000000000 {
			wanted = fmt.Sprintf("tab-%d", n)
		}
		want(t, fmt.Sprintf("File(%d)", n), manifest.File(n), wanted)
		want(t, fmt.Sprintf("a disk's Good of File(%d)", n), disk.Good(manifest.File(n)), wanted != "")
	}
	seen := strings.Builder{}
	for n := range 1200 {
		fmt.Fprintln(&seen, manifest.File(n))
	}
	want(t, "names of 1199 tables", len(strings.Fields(seen.String())), 1199)
}
