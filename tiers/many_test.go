package tiers_test

import (
	"math"
	"testing"

	"skerry/tiers"
)

// wantRuns: each bucket's numbers are the next ones, as many as are wanted.
func wantRuns(t *testing.T, what string, buckets [][]int, want ...int) {
	t.Helper()
	if len(buckets) != len(want) {
		t.Fatalf("%s: %d buckets, want %d", what, len(buckets), len(want))
	}
	next := 0
	for i, bucket := range buckets {
		if len(bucket) != want[i] {
			t.Fatalf("%s: bucket %d has %d tables, want %d", what, i, len(bucket), want[i])
		}
		for _, number := range bucket {
			if number != next {
				t.Fatalf("%s: bucket %d has %d, want %d", what, i, number, next)
			}
			next++
		}
	}
}

// P12.1 and R6: so many of 2^40 and more that their sum has no room in 64 bits, with a sign or without.
func TestManyOfTheGreatest(t *testing.T) {
	const many = 1<<24 + 3
	sizes := make([]int, many)
	for i := range sizes {
		sizes[i] = top + i%3
	}
	sizes[many-1] = math.MaxInt
	wantRuns(t, "Buckets", tiers.Buckets(sizes), many)
	wantRuns(t, "Choose", [][]int{tiers.Choose(sizes, many)}, many)
	if got := tiers.Choose(sizes, many+1); len(got) != 0 {
		t.Errorf("Choose with one more: %d tables", len(got))
	}
}

// P12.1 and R6: so great a sum is divided just, its rest too.
func TestTwiceTheMeanOfMany(t *testing.T) {
	const many, mean = 1<<24 + 3, top/2 - 1
	sizes := make([]int, many+1)
	for i := range sizes {
		sizes[i] = mean + 1
	}
	sizes[0] = mean
	sizes[many] = 2 * mean
	wantRuns(t, "just twice the mean", tiers.Buckets(sizes), many+1)
	sizes[many] = 2*mean + 1
	wantRuns(t, "one more", tiers.Buckets(sizes), many, 1)
	sizes[0] = mean + 1
	wantRuns(t, "one more, and a mean that is greater by one", tiers.Buckets(sizes), many+1)
}

// P12.1: many sizes that are mixed, in time that a search through all of them for each table would not have.
func TestManyMixed(t *testing.T) {
	const many = 200000
	sizes := make([]int, many)
	for i := range sizes {
		sizes[i] = 1 << (3 * (i * 7919 % 13))
	}
	buckets := tiers.Buckets(sizes)
	if len(buckets) != 13 {
		t.Fatalf("%d buckets, want 13", len(buckets))
	}
	count := 0
	for i, bucket := range buckets {
		count += len(bucket)
		for at, number := range bucket {
			if sizes[number] != 1<<(3*i) || at > 0 && number <= bucket[at-1] {
				t.Fatalf("bucket %d has %d, of size %d, at %d", i, number, sizes[number], at)
			}
		}
	}
	if count != many {
		t.Errorf("%d tables, want %d", count, many)
	}
}

// P12.1: as many buckets as there may be.
func TestManyBuckets(t *testing.T) {
	var sizes, want []int
	for size := 4; size <= top; size = 2*size + 1 {
		sizes, want = append(sizes, size), append(want, 1)
	}
	wantRuns(t, "Buckets", tiers.Buckets(sizes), want...)
	if got := tiers.Choose(sizes, 0); len(got) != 0 {
		t.Errorf("Choose: %v, want none", got)
	}
}
