package tiers_test

import (
	"math"
	"slices"
	"testing"

	"skerry/tiers"
)

// spoil changes a list and the room behind its end.
func spoil(l []int) {
	l = l[:cap(l)]
	for i := range l {
		l[i] = -77
	}
}

func copyOf(l [][]int) [][]int {
	var out [][]int
	for _, x := range l {
		out = append(out, slices.Clone(x))
	}
	return out
}

// arguments: sizes of no bucket, of one, of several, of which the greatest is the first, a middle one, the last.
func arguments() [][]int {
	return [][]int{
		nil,
		{10},
		{10, 9, 12, 10},
		{10, 100, 12, 9},
		{1000, 100, 10, 1000, 100, 10, 100},
		{math.MaxInt, math.MinInt, 5, top, -1, 4, 1000, top + 1},
	}
}

// R3: sizes are neither changed nor kept, and the room behind their end is neither changed nor looked at.
func TestArgumentStays(t *testing.T) {
	for _, sizes := range arguments() {
		whole := slices.Concat(sizes, list(10, -3, math.MaxInt, 100))
		before := slices.Clone(whole)
		part := whole[:len(sizes)]
		buckets, choice := tiers.Buckets(part), tiers.Choose(part, 2)
		if !slices.Equal(whole, before) {
			t.Fatalf("%v: the argument is %v", before, whole)
		}
		for _, bucket := range buckets {
			spoil(bucket)
		}
		spoil(choice)
		if !slices.Equal(whole, before) {
			t.Fatalf("%v: an answer shares the argument's memory", before)
		}
		buckets, choice = tiers.Buckets(part), tiers.Choose(part, 2)
		spoil(whole)
		if !sameLists(buckets, slowBuckets(sizes)) || !slices.Equal(choice, slowChoose(sizes, 2)) {
			t.Fatalf("%v: %v and %v behind a change of the argument", sizes, buckets, choice)
		}
	}
}

// R3: an answer shares nothing with another one.
func TestAnswersAreNew(t *testing.T) {
	for _, sizes := range arguments() {
		want, wantMost := slowBuckets(sizes), slowChoose(sizes, 2)
		buckets, choice := tiers.Buckets(sizes), tiers.Choose(sizes, 2)
		other, otherChoice := tiers.Buckets(sizes), tiers.Choose(sizes, 2)
		for i := range buckets {
			spoil(buckets[i])
		}
		clear(buckets[:cap(buckets)])
		spoil(choice)
		if !sameLists(other, want) || !slices.Equal(otherChoice, wantMost) {
			t.Fatalf("%v: %v and %v behind a change of another answer", sizes, other, otherChoice)
		}
		wantBuckets(t, sizes, want)
		wantChoice(t, sizes, 2, wantMost)
	}
}

// R3: no two buckets of one answer share memory, nor the room behind their ends.
func TestBucketsAreApart(t *testing.T) {
	for _, sizes := range arguments() {
		for i, want := range slowBuckets(sizes) {
			buckets := tiers.Buckets(sizes)
			before := copyOf(buckets)
			spoil(buckets[i])
			before[i] = slices.Repeat(list(-77), len(want))
			if !sameLists(buckets, before) {
				t.Fatalf("%v: %v behind a change of bucket %d", sizes, buckets, i)
			}
			_ = append(buckets[i], -78, -78, -78)
			if !sameLists(buckets, before) {
				t.Fatalf("%v: %v when bucket %d has more", sizes, buckets, i)
			}
		}
	}
}
