package ring_test

import (
	"slices"
	"testing"

	"skerry/api"
	"skerry/ring"
)

// spoil changes a list and the room behind its end.
func spoil(l []int) {
	l = l[:cap(l)]
	for i := range l {
		l[i] = -77
	}
}

func spoilPoints(l []ring.Point) {
	l = l[:cap(l)]
	for i := range l {
		l[i] = ring.Point{Token: -77, Node: -77}
	}
}

// R3: what is done to an answer, or behind its end, changes no ring and no other answer.
func TestAnswersAreNew(t *testing.T) {
	eachRing(t, func(nodes, tokens, copies int, r *ring.Ring) {
		same := ring.New(nodes, tokens, copies)
		points, others := r.Points(), r.Points()
		want := slices.Clone(points)
		spoilPoints(points)
		wantPoints(t, "another answer", others, want)
		wantPoints(t, "Points behind a change", r.Points(), want)
		wantPoints(t, "Points of a ring that is alike", same.Points(), want)
		for i := range want {
			replicas, other := r.Replicas(i), r.Replicas(i)
			spoil(replicas)
			wantList(t, "another answer", other, slowReplicas(want, copies, i))
			wantList(t, "Replicas behind a change", r.Replicas(i), other)
		}
		for node := range api.MaxNodes + 1 {
			ranges, other := r.Ranges(node), r.Ranges(node)
			before := slices.Clone(other)
			spoil(ranges)
			wantList(t, "another answer", other, before)
			wantList(t, "Ranges behind a change", r.Ranges(node), before)
		}
	})
}

// R4: rings that were made alike answer alike, whatever other rings were made and asked in between.
func TestRingsAreApart(t *testing.T) {
	first := ring.New(3, 4, 2)
	points, replicas, ranges := first.Points(), first.Replicas(5), first.Ranges(2)
	eachRing(t, func(nodes, tokens, copies int, r *ring.Ring) {
		r.Range(tokens)
		r.Replicas(nodes)
		wantPoints(t, "Points", first.Points(), points)
		wantList(t, "Replicas", first.Replicas(5), replicas)
		wantList(t, "Ranges", first.Ranges(2), ranges)
		if first.Copies() != 2 {
			t.Fatalf("Copies: %d", first.Copies())
		}
	})
}
