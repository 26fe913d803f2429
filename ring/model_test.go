package ring_test

import (
	"math"
	"math/rand/v2"
	"slices"
	"testing"

	"skerry/api"
	"skerry/murmur"
	"skerry/ring"
)

// slowIn: the chapter's words on range i, asked of one token.
func slowIn(points []ring.Point, i, token int) bool {
	last := points[len(points)-1].Token
	if i == 0 {
		return token <= points[0].Token || token > last
	}
	return token > points[i-1].Token && token <= points[i].Token
}

// slowRange looks at all ranges; -1, if not just one has the token.
func slowRange(points []ring.Point, token int) int {
	found, count := -1, 0
	for i := range points {
		if slowIn(points, i, token) {
			found, count = i, count+1
		}
	}
	if count != 1 {
		return -1
	}
	return found
}

// slowReplicas takes from the points as they stand twice in a row.
func slowReplicas(points []ring.Point, copies, i int) []int {
	var out []int
	for _, p := range slices.Concat(points, points)[i:] {
		if !slices.Contains(out, p.Node) {
			out = append(out, p.Node)
		}
	}
	return out[:copies]
}

// someTokens: all that lie at a point, the ends, and some of any kind.
func someTokens(source *rand.Rand, points []ring.Point) []int {
	out := []int{math.MinInt, math.MinInt + 1, -1, 0, 1, math.MaxInt - 1, math.MaxInt}
	for _, p := range points {
		out = append(out, p.Token)
		if p.Token > math.MinInt {
			out = append(out, p.Token-1)
		}
		if p.Token < math.MaxInt {
			out = append(out, p.Token+1)
		}
	}
	for range 40 {
		out = append(out, int(source.Uint64()), murmur.Token(string(rune('a'+source.IntN(26)))), source.IntN(20)-10)
	}
	return out
}

// wantAsSlow holds all answers of a ring against the slow form.
func wantAsSlow(t *testing.T, source *rand.Rand, r *ring.Ring, copies int) {
	t.Helper()
	points := r.Points()
	for _, token := range someTokens(source, points) {
		want := slowRange(points, token)
		if want < 0 {
			t.Fatalf("%v: the slow form has not one range for %d", points, token)
		}
		wantRange(t, r, token, want)
	}
	var ranges [api.MaxNodes + 2][]int
	for i := range points {
		want := slowReplicas(points, copies, i)
		wantList(t, "Replicas", r.Replicas(i), want)
		for node := range ranges {
			if r.Has(i, node) != slices.Contains(want, node) {
				t.Fatalf("Has(%d, %d) of %v: %v, want the other", i, node, points, r.Has(i, node))
			}
		}
		for _, node := range want {
			ranges[node] = append(ranges[node], i)
		}
	}
	for node, want := range ranges {
		wantList(t, "Ranges", r.Ranges(node), want)
	}
}

// wantJustCopies: P15.3's second half, by what is answered alone.
func wantJustCopies(t *testing.T, r *ring.Ring, nodes, copies int) {
	t.Helper()
	for i := range r.Points() {
		got := r.Replicas(i)
		slices.Sort(got)
		if len(got) != copies || len(slices.Compact(got)) != copies || got[0] < 1 || got[copies-1] > nodes {
			t.Fatalf("Replicas(%d) of %d nodes with %d copies: %v", i, nodes, copies, r.Replicas(i))
		}
		count := 0
		for node := -1; node <= nodes+1; node++ {
			if r.Has(i, node) {
				count++
			}
		}
		if count != copies {
			t.Fatalf("range %d of %d nodes: %d have it, want %d", i, nodes, count, copies)
		}
	}
}

// P15.2 and P15.3: all rings that New makes.
func TestAgainstSlow(t *testing.T) {
	source := rand.New(rand.NewPCG(15, 0))
	eachRing(t, func(nodes, tokens, copies int, r *ring.Ring) {
		wantAsSlow(t, source, r, copies)
		wantJustCopies(t, r, nodes, copies)
	})
}

// anyPoints: a token or more of each node, near each other, at the ends, or any.
func anyPoints(source *rand.Rand, nodes int) []ring.Point {
	var out []ring.Point
	near := 1 + source.IntN(30)
	way := source.IntN(3)
	for i := range nodes * (1 + source.IntN(api.MaxTokens)) {
		token := source.IntN(near) - near/2
		switch {
		case way == 1 && source.IntN(2) == 0:
			token = [...]int{math.MinInt, math.MinInt + 1, math.MaxInt - 1, math.MaxInt}[source.IntN(4)]
		case way == 2:
			token = int(source.Uint64())
		}
		out = append(out, ring.Point{Token: token, Node: 1 + i%nodes})
	}
	source.Shuffle(len(out), func(i, j int) { out[i], out[j] = out[j], out[i] })
	return out
}

// P15.1, P15.2 and P15.3: points of which many are alike, in any order.
func TestAnyPointsAgainstSlow(t *testing.T) {
	source := rand.New(rand.NewPCG(16, 0))
	for range 3000 {
		nodes := 1 + source.IntN(api.MaxNodes)
		copies := 1 + source.IntN(nodes)
		points := anyPoints(source, nodes)
		want := slices.Clone(points)
		r := ring.Build(points, copies)
		slices.SortStableFunc(want, func(a, b ring.Point) int { return a.Node - b.Node })
		slices.SortStableFunc(want, func(a, b ring.Point) int {
			switch {
			case a.Token < b.Token:
				return -1
			case a.Token > b.Token:
				return 1
			}
			return 0
		})
		wantPoints(t, "Points", r.Points(), want)
		wantAsSlow(t, source, r, copies)
		wantJustCopies(t, r, nodes, copies)
	}
}

// P15.3: whatever a partition is called, its range is one of those that there are, and it is always the same one.
func TestEachPartitionHasARange(t *testing.T) {
	source := rand.New(rand.NewPCG(17, 0))
	for range 2000 {
		nodes := 1 + source.IntN(api.MaxNodes)
		tokens := 1 + source.IntN(api.MaxTokens)
		b := make([]byte, source.IntN(api.MaxText+2))
		for i := range b {
			b[i] = byte(source.Uint32())
		}
		i := ring.New(nodes, tokens, 1).Of(string(b))
		if i < 0 || i >= nodes*tokens || i != ring.New(nodes, tokens, nodes).Of(string(b)) {
			t.Fatalf("Of(%q) of %d nodes with %d tokens: %d", b, nodes, tokens, i)
		}
	}
}
