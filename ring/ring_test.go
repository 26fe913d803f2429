package ring_test

import (
	"math"
	"slices"
	"strings"
	"testing"

	"skerry/api"
	"skerry/murmur"
	"skerry/ring"
)

// tokenOf: murmur's Token of nN-I, as another program told it.
func tokenOf(node, i int) int {
	return [api.MaxNodes][api.MaxTokens]int{
		{-8136694902295010794, 3450111966888139119, -1545683081066193875, -739775815419895773, 8726557210057090390, -2566450417079667701, 5432643286133571567, 9165851442416299497},
		{-227967157979241799, -8621953595336035093, 6642425943795352361, 2486515577300155654, 8919387468776724455, 7806654990671852277, 8384966427024523854, -6045249983185507843},
		{-2784331757455707829, -8070178792032094346, -5424489266417795086, -2128401102556919640, 3879458848941659070, 6794176868856252179, 3601922722414473650, -4431306007194198610},
		{-2546340790407251778, 5715801106017455601, 980618352852510419, -3025574215955191966, -753376157799153012, -6788362913297208766, -7352592123406634194, -9124045850464515456},
		{-2494786384014438778, 2695527927530106496, 6093044471664215416, -9166511505544357253, 8067744422292282030, -861989530736553378, -2920077669438934807, -1639170049670013018},
	}[node-1][i]
}

func list(l ...int) []int { return l }

func wantList(t *testing.T, what string, got, want []int) {
	t.Helper()
	if !slices.Equal(got, want) {
		t.Fatalf("%s: %v, want %v", what, got, want)
	}
}

func wantPoints(t *testing.T, what string, got, want []ring.Point) {
	t.Helper()
	if !slices.Equal(got, want) {
		t.Fatalf("%s: %v, want %v", what, got, want)
	}
}

func wantRange(t *testing.T, r *ring.Ring, token, want int) {
	t.Helper()
	if got := r.Range(token); got != want {
		t.Fatalf("Range(%d) of %v: %d, want %d", token, r.Points(), got, want)
	}
}

// eachRing: all that New makes.
func eachRing(t *testing.T, look func(nodes, tokens, copies int, r *ring.Ring)) {
	t.Helper()
	for nodes := 1; nodes <= api.MaxNodes; nodes++ {
		for tokens := 1; tokens <= api.MaxTokens; tokens++ {
			for copies := 1; copies <= nodes; copies++ {
				r := ring.New(nodes, tokens, copies)
				if r == nil {
					t.Fatalf("New(%d, %d, %d): nil", nodes, tokens, copies)
				}
				look(nodes, tokens, copies, r)
			}
		}
	}
}

// P15.1 and P15.2: the example of the chapter.
func TestExample(t *testing.T) {
	r := ring.New(1, 1, 1)
	wantPoints(t, "Points", r.Points(), []ring.Point{{Token: tokenOf(1, 0), Node: 1}})
	for _, token := range []int{math.MinInt, -5, 0, 1, tokenOf(1, 0) - 1, tokenOf(1, 0), tokenOf(1, 0) + 1, math.MaxInt} {
		wantRange(t, r, token, 0)
	}
	wantList(t, "Replicas(0)", r.Replicas(0), list(1))
	wantList(t, "Ranges(1)", r.Ranges(1), list(0))
	if r.Copies() != 1 || !r.Has(0, 1) || r.Of("a") != 0 {
		t.Errorf("Copies %d, Has(0, 1) %v, Of(a) %d", r.Copies(), r.Has(0, 1), r.Of("a"))
	}
}

// P15.1: just the rings of 1 to MaxNodes nodes, 1 to MaxTokens tokens, and 1 to nodes copies are made.
func TestNew(t *testing.T) {
	numbers := []int{math.MinInt, math.MinInt + 1, -1 << 32, -2, -1, 0, 1, 2, 3, 4, 5, 6, 7, 8, 9, 10, 1 << 32, 1<<32 + 1, math.MaxInt - 1, math.MaxInt}
	for _, nodes := range numbers {
		for _, tokens := range numbers {
			for _, copies := range numbers {
				good := nodes >= 1 && nodes <= 5 && tokens >= 1 && tokens <= 8 && copies >= 1 && copies <= nodes
				r := ring.New(nodes, tokens, copies)
				if (r != nil) != good {
					t.Fatalf("New(%d, %d, %d): %v", nodes, tokens, copies, r)
				}
				if good && r.Copies() != copies {
					t.Fatalf("Copies of New(%d, %d, %d): %d", nodes, tokens, copies, r.Copies())
				}
			}
		}
	}
}

// P15.1: the edges by name, each with the other two as they should be.
func TestNewEdges(t *testing.T) {
	for _, c := range []struct {
		nodes, tokens, copies int
		good                  bool
	}{
		{0, 1, 1, false}, {1, 1, 1, true}, {api.MaxNodes, 1, 1, true}, {api.MaxNodes + 1, 1, 1, false},
		{1, 0, 1, false}, {1, api.MaxTokens, 1, true}, {1, api.MaxTokens + 1, 1, false},
		{3, 1, 0, false}, {3, 1, 1, true}, {3, 1, 3, true}, {3, 1, 4, false},
		{api.MaxNodes, api.MaxTokens, api.MaxNodes, true}, {api.MaxNodes, api.MaxTokens, api.MaxNodes + 1, false},
	} {
		if r := ring.New(c.nodes, c.tokens, c.copies); (r != nil) != c.good {
			t.Errorf("New(%d, %d, %d): %v", c.nodes, c.tokens, c.copies, r)
		}
	}
}

// P15.1: each node's points, by their tokens, whatever the copies are.
func TestPoints(t *testing.T) {
	eachRing(t, func(nodes, tokens, copies int, r *ring.Ring) {
		var want []ring.Point
		for node := 1; node <= nodes; node++ {
			for i := range tokens {
				want = append(want, ring.Point{Token: tokenOf(node, i), Node: node})
			}
		}
		slices.SortFunc(want, func(a, b ring.Point) int {
			if a.Token < b.Token {
				return -1
			}
			return 1
		})
		wantPoints(t, "Points", r.Points(), want)
	})
	wantPoints(t, "Points of three nodes", ring.New(3, 2, 2).Points(), []ring.Point{
		{Token: -8621953595336035093, Node: 2},
		{Token: -8136694902295010794, Node: 1},
		{Token: -8070178792032094346, Node: 3},
		{Token: -2784331757455707829, Node: 3},
		{Token: -227967157979241799, Node: 2},
		{Token: 3450111966888139119, Node: 1},
	})
}

// P15.1: points with one token are by nodes, and tokens at the ends of ints in their order.
func TestPointsAlike(t *testing.T) {
	points := []ring.Point{
		{Token: 7, Node: 3}, {Token: math.MaxInt, Node: 2}, {Token: 7, Node: 1}, {Token: math.MinInt, Node: 3},
		{Token: -1, Node: 1}, {Token: 7, Node: 2}, {Token: math.MinInt, Node: 2}, {Token: math.MaxInt, Node: 1}, {Token: 7, Node: 1},
	}
	wantPoints(t, "Points", ring.Build(points, 2).Points(), []ring.Point{
		{Token: math.MinInt, Node: 2}, {Token: math.MinInt, Node: 3}, {Token: -1, Node: 1},
		{Token: 7, Node: 1}, {Token: 7, Node: 1}, {Token: 7, Node: 2}, {Token: 7, Node: 3},
		{Token: math.MaxInt, Node: 1}, {Token: math.MaxInt, Node: 2},
	})
}

// P15.2: a point's token is in its range, one less too, one more in the next one's.
func TestRange(t *testing.T) {
	eachRing(t, func(nodes, tokens, copies int, r *ring.Ring) {
		points := r.Points()
		for i, p := range points {
			wantRange(t, r, p.Token-1, i)
			wantRange(t, r, p.Token, i)
			wantRange(t, r, p.Token+1, (i+1)%len(points))
		}
		wantRange(t, r, math.MinInt, 0)
		wantRange(t, r, math.MinInt+1, 0)
		wantRange(t, r, math.MaxInt-1, 0)
		wantRange(t, r, math.MaxInt, 0)
	})
	r := ring.New(3, 1, 2)
	for token, want := range map[int]int{-9000000000000000000: 0, -8000000000000000000: 1, -2784331757455707828: 2, -227967157979241799: 2, -227967157979241798: 0, 0: 0} {
		wantRange(t, r, token, want)
	}
}

// P15.2: points at the ends of ints: nothing is ahead of the first one's, or above the last one's.
func TestRangeAtTheEnds(t *testing.T) {
	r := ring.Build([]ring.Point{{Token: math.MinInt, Node: 1}, {Token: 0, Node: 2}, {Token: math.MaxInt, Node: 3}}, 2)
	for token, want := range map[int]int{math.MinInt: 0, math.MinInt + 1: 1, -1: 1, 0: 1, 1: 2, math.MaxInt - 1: 2, math.MaxInt: 2} {
		wantRange(t, r, token, want)
	}
}

// P15.2: of points with one token the first one's range has what is up to them.
func TestRangeOfPointsAlike(t *testing.T) {
	r := ring.Build([]ring.Point{{Token: 5, Node: 1}, {Token: 5, Node: 2}, {Token: 9, Node: 1}, {Token: 9, Node: 2}, {Token: 9, Node: 3}}, 3)
	for token, want := range map[int]int{math.MinInt: 0, 4: 0, 5: 0, 6: 2, 8: 2, 9: 2, 10: 0, math.MaxInt: 0} {
		wantRange(t, r, token, want)
	}
	wantList(t, "Replicas(0)", r.Replicas(0), list(1, 2, 3))
	wantList(t, "Replicas(1)", r.Replicas(1), list(2, 1, 3))
	wantList(t, "Replicas(3)", r.Replicas(3), list(2, 3, 1))
	all := ring.Build([]ring.Point{{Token: 5, Node: 1}, {Token: 5, Node: 1}, {Token: 5, Node: 2}}, 1)
	for _, token := range []int{math.MinInt, 4, 5, 6, math.MaxInt} {
		wantRange(t, all, token, 0)
	}
}

// P15.2: Of is the range of a partition's token, whatever text it is.
func TestOf(t *testing.T) {
	parts := []string{"", "a", "b", "a/b", "n1-0", "n2-0", "n3-1", "n5-7", "\x00", "\xff\xfe", "née", strings.Repeat("x", 15), strings.Repeat("x", 16), strings.Repeat("x", api.MaxText), strings.Repeat("x", api.MaxText+1), strings.Repeat("long", 5000)}
	eachRing(t, func(nodes, tokens, copies int, r *ring.Ring) {
		for _, part := range parts {
			if got, want := r.Of(part), slowRange(r.Points(), murmur.Token(part)); got != want {
				t.Fatalf("Of(%q) of %d nodes with %d tokens: %d, want %d", part, nodes, tokens, got, want)
			}
		}
	})
	r := ring.New(3, 1, 1)
	for part, want := range map[string]int{"n1-0": 0, "n3-0": 1, "n2-0": 2, "n3-1": 1, "n1-1": 0, "": 0} {
		if got := r.Of(part); got != want {
			t.Errorf("Of(%q): %d, want %d", part, got, want)
		}
	}
}

// P15.2: the replicas from their point on, going round, as they are met.
func TestReplicas(t *testing.T) {
	for _, c := range []struct {
		nodes, tokens, copies int
		want                  [][]int
	}{
		{2, 2, 1, [][]int{{2}, {1}, {2}, {1}}},
		{2, 2, 2, [][]int{{2, 1}, {1, 2}, {2, 1}, {1, 2}}},
		{3, 1, 2, [][]int{{1, 3}, {3, 2}, {2, 1}}},
		{3, 1, 3, [][]int{{1, 3, 2}, {3, 2, 1}, {2, 1, 3}}},
		// Two points of node 3 stand side by side, and the first point's node is the last but one's, too.
		{3, 2, 2, [][]int{{2, 1}, {1, 3}, {3, 2}, {3, 2}, {2, 1}, {1, 2}}},
		{5, 1, 3, [][]int{{1, 3, 4}, {3, 4, 5}, {4, 5, 2}, {5, 2, 1}, {2, 1, 3}}},
	} {
		r := ring.New(c.nodes, c.tokens, c.copies)
		for i, want := range c.want {
			wantList(t, "Replicas", r.Replicas(i), want)
		}
	}
}

// P15.2: copies as many as nodes: each node has each range.
func TestAllNodesHaveAll(t *testing.T) {
	for nodes := 1; nodes <= api.MaxNodes; nodes++ {
		r := ring.New(nodes, api.MaxTokens, nodes)
		for i := range r.Points() {
			got := r.Replicas(i)
			slices.Sort(got)
			wantList(t, "Replicas", got, list(1, 2, 3, 4, 5)[:nodes])
		}
		for node := 1; node <= nodes; node++ {
			if got := r.Ranges(node); len(got) != nodes*api.MaxTokens || got[0] != 0 || got[len(got)-1] != len(got)-1 {
				t.Fatalf("Ranges(%d) of %d nodes: %v", node, nodes, got)
			}
		}
	}
}

// P15.2: one copy: the point's own node.
func TestOneCopy(t *testing.T) {
	for nodes := 1; nodes <= api.MaxNodes; nodes++ {
		r := ring.New(nodes, api.MaxTokens, 1)
		for i, p := range r.Points() {
			wantList(t, "Replicas", r.Replicas(i), list(p.Node))
		}
	}
}

// P15.2: no replicas of a range that is none, and no node has it.
func TestNoRange(t *testing.T) {
	eachRing(t, func(nodes, tokens, copies int, r *ring.Ring) {
		n := nodes * tokens
		for _, i := range []int{math.MinInt, math.MinInt + 1, -n - 1, -n, -2, -1, n, n + 1, 2 * n, math.MaxInt - 1, math.MaxInt} {
			wantList(t, "Replicas of none", r.Replicas(i), nil)
			for node := -1; node <= nodes+1; node++ {
				if r.Has(i, node) {
					t.Fatalf("Has(%d, %d) of %d nodes with %d tokens", i, node, nodes, tokens)
				}
			}
		}
		if len(r.Replicas(n-1)) != copies || len(r.Replicas(0)) != copies {
			t.Fatalf("the first or the last of %d ranges has not %d replicas", n, copies)
		}
	})
}

// P15.2: a node that is none has no range.
func TestNoNode(t *testing.T) {
	eachRing(t, func(nodes, tokens, copies int, r *ring.Ring) {
		for _, node := range []int{math.MinInt, -nodes, -2, -1, 0, nodes + 1, api.MaxNodes + 1, api.MaxNodes + 2, 1 << 32, 1<<32 + 1, math.MaxInt} {
			wantList(t, "Ranges of none", r.Ranges(node), nil)
			for i := -1; i <= nodes*tokens; i++ {
				if r.Has(i, node) {
					t.Fatalf("Has(%d, %d) of %d nodes with %d tokens", i, node, nodes, tokens)
				}
			}
		}
	})
}

// P15.2: which ranges a node has, rising.
func TestRanges(t *testing.T) {
	r := ring.New(3, 2, 2)
	wantList(t, "Ranges(1)", r.Ranges(1), list(0, 1, 4, 5))
	wantList(t, "Ranges(2)", r.Ranges(2), list(0, 2, 3, 4, 5))
	wantList(t, "Ranges(3)", r.Ranges(3), list(1, 2, 3))
	if !r.Has(0, 1) || !r.Has(0, 2) || r.Has(0, 3) || r.Has(5, 3) || !r.Has(5, 2) || r.Has(6, 2) || r.Has(-1, 2) {
		t.Error("Has of three nodes")
	}
}

// The sentence on a Ring that no call made, and R5.
func TestNoCallMade(t *testing.T) {
	for _, r := range []*ring.Ring{nil, {}, new(ring.Ring), ring.New(0, 0, 0), ring.New(2, 1, 3)} {
		if len(r.Points()) != 0 || r.Copies() != 0 {
			t.Errorf("Points %v, Copies %d", r.Points(), r.Copies())
		}
		for _, n := range []int{math.MinInt, -1, 0, 1, 2, api.MaxNodes, math.MaxInt} {
			if r.Range(n) != -1 {
				t.Errorf("Range(%d): %d", n, r.Range(n))
			}
			wantList(t, "Replicas", r.Replicas(n), nil)
			wantList(t, "Ranges", r.Ranges(n), nil)
			if r.Has(n, n) || r.Has(0, n) || r.Has(n, 0) || r.Has(n, 1) {
				t.Errorf("Has(%d, ..) is true", n)
			}
		}
		for _, part := range []string{"", "a", "n1-0", strings.Repeat("x", 1000)} {
			if r.Of(part) != -1 {
				t.Errorf("Of(%q): %d", part, r.Of(part))
			}
		}
	}
}
