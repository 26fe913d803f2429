package tiers_test

import (
	"math"
	"math/big"
	"math/rand/v2"
	"slices"
	"testing"

	"skerry/tiers"
)

const top = 1 << 40

func list(l ...int) []int { return l }

func lists(l ...[]int) [][]int { return l }

func sameLists(a, b [][]int) bool {
	return slices.EqualFunc(a, b, func(x, y []int) bool { return slices.Equal(x, y) })
}

func wantBuckets(t *testing.T, sizes []int, want [][]int) {
	t.Helper()
	if got := tiers.Buckets(sizes); !sameLists(got, want) {
		t.Fatalf("Buckets(%v): %v, want %v", sizes, got, want)
	}
}

func wantChoice(t *testing.T, sizes []int, least int, want []int) {
	t.Helper()
	if got := tiers.Choose(sizes, least); !slices.Equal(got, want) {
		t.Fatalf("Choose(%v, %d): %v, want %v", sizes, least, got, want)
	}
}

func slowSize(size int) int {
	switch {
	case size < 0:
		return 0
	case size > top:
		return top
	}
	return size
}

// slowNext: of the tables that are in no bucket yet the one with the least size, the first one of several.
func slowNext(sizes []int, taken []bool) int {
	next := -1
	for i := range sizes {
		if !taken[i] && (next < 0 || slowSize(sizes[i]) < slowSize(sizes[next])) {
			next = i
		}
	}
	return next
}

// slowFits divides the whole sum, a number of any size, anew for each table.
func slowFits(sizes, bucket []int, size int) bool {
	sum := new(big.Int)
	for _, i := range bucket {
		sum.Add(sum, big.NewInt(int64(slowSize(sizes[i]))))
	}
	mean := sum.Div(sum, big.NewInt(int64(len(bucket))))
	return size <= 4 || big.NewInt(int64(size)).Cmp(mean.Mul(mean, big.NewInt(2))) <= 0
}

func slowBuckets(sizes []int) [][]int {
	var out [][]int
	taken := make([]bool, len(sizes))
	for range sizes {
		next := slowNext(sizes, taken)
		taken[next] = true
		last := len(out) - 1
		if last >= 0 && slowFits(sizes, out[last], slowSize(sizes[next])) {
			out[last] = append(out[last], next)
		} else {
			out = append(out, list(next))
		}
	}
	for _, bucket := range out {
		slices.Sort(bucket)
	}
	return out
}

func slowChoose(sizes []int, least int) []int {
	var out []int
	for _, bucket := range slowBuckets(sizes) {
		if len(bucket) >= 2 && len(bucket) >= least && len(bucket) > len(out) {
			out = bucket
		}
	}
	return out
}

func edgeSizes() []int {
	return []int{math.MinInt, math.MinInt + 1, -5, -1, 0, 1, 2, 3, 4, 5, 6, 8, 9, 10, 11, 12, top/2 - 1, top / 2, top/2 + 1, top - 1, top, top + 1, math.MaxInt - 1, math.MaxInt}
}

func edgeLeasts() []int {
	return []int{math.MinInt, math.MinInt + 1, -2, -1, 0, 1, 2, 3, 4, 5, 6, math.MaxInt - 1, math.MaxInt}
}

// anySizes: few or many, near each other or of any length in bits.
func anySizes(source *rand.Rand, most int) []int {
	var out []int
	near := 1 + source.IntN(60)
	way := source.IntN(3)
	for range source.IntN(most + 1) {
		switch way {
		case 0:
			out = append(out, source.IntN(near))
		case 1:
			out = append(out, int(source.Uint64()>>source.IntN(64)))
		default:
			out = append(out, edgeSizes()[source.IntN(len(edgeSizes()))])
		}
	}
	return out
}

// P12.1 and P12.2: the examples of the chapter.
func TestExamples(t *testing.T) {
	sizes := list(10, 100, 12, 9)
	wantBuckets(t, sizes, lists(list(0, 2, 3), list(1)))
	wantChoice(t, sizes, 2, list(0, 2, 3))
	wantChoice(t, sizes, 4, nil)
}

// P12.1 and P12.2: no sizes; one size, whatever it is.
func TestFewSizes(t *testing.T) {
	for _, none := range [][]int{nil, {}} {
		wantBuckets(t, none, nil)
		for _, least := range edgeLeasts() {
			wantChoice(t, none, least, nil)
		}
	}
	for _, size := range edgeSizes() {
		wantBuckets(t, list(size), lists(list(0)))
		for _, least := range edgeLeasts() {
			wantChoice(t, list(size), least, nil)
		}
	}
}

// P12.1: sizes that are all alike are in one bucket, whatever they are, however many.
func TestAlike(t *testing.T) {
	for _, size := range edgeSizes() {
		for n := 2; n <= 40; n++ {
			var numbers []int
			for i := range n {
				numbers = append(numbers, i)
			}
			wantBuckets(t, slices.Repeat(list(size), n), lists(numbers))
			wantChoice(t, slices.Repeat(list(size), n), n, numbers)
		}
	}
}

// P12.1: sizes below 0 count as 0: among themselves they are alike, and they make no mean less.
func TestBelowZero(t *testing.T) {
	wantBuckets(t, list(0, -1, math.MinInt, 0, math.MinInt+1), lists(list(0, 1, 2, 3, 4)))
	wantBuckets(t, list(4, math.MinInt, -7), lists(list(0, 1, 2)))
	wantBuckets(t, list(5, math.MinInt, -7), lists(list(1, 2), list(0)))
	wantBuckets(t, list(-1, 4, 4, 5), lists(list(0, 1, 2), list(3)))
	// With 0 for the first one the mean is 3, with -1 it would be 2.
	wantBuckets(t, list(-1, 4, 4, 4, 6), lists(list(0, 1, 2, 3, 4)))
	wantBuckets(t, list(math.MinInt, 4, 4, 4, 6), lists(list(0, 1, 2, 3, 4)))
	wantBuckets(t, list(math.MinInt, 4, 4, 4, 7), lists(list(0, 1, 2, 3), list(4)))
}

// P12.1: sizes above 2^40 count as 2^40.
func TestAboveTheGreatest(t *testing.T) {
	for _, size := range []int{top, top + 1, top + 2, 2 * top, 2*top + 1, math.MaxInt - 1, math.MaxInt} {
		wantBuckets(t, list(size, top), lists(list(0, 1)))
		wantBuckets(t, list(top/2, size), lists(list(0, 1)))
		wantBuckets(t, list(top/2+1, size), lists(list(0, 1)))
		wantBuckets(t, list(top/2-1, size), lists(list(0), list(1)))
		wantBuckets(t, list(size, math.MaxInt, 1, top), lists(list(2), list(0, 1, 3)))
	}
	wantBuckets(t, list(top/2-1, top-2), lists(list(0, 1)))
	wantBuckets(t, list(top/2-1, top-1), lists(list(0), list(1)))
	// Alike by what they count as: it is no matter which is the greater one.
	wantBuckets(t, list(math.MaxInt, top, top+1), lists(list(0, 1, 2)))
}

// P12.1: a size of at most 4 goes into the last bucket, whatever the mean is.
func TestSmallSizes(t *testing.T) {
	for small := 1; small <= 4; small++ {
		wantBuckets(t, list(0, small), lists(list(0, 1)))
		wantBuckets(t, list(small, 0, 0, 0, small), lists(list(0, 1, 2, 3, 4)))
	}
	wantBuckets(t, list(0, 5), lists(list(0), list(1)))
	wantBuckets(t, list(1, 5), lists(list(0), list(1)))
	wantBuckets(t, list(2, 5), lists(list(0), list(1)))
	wantBuckets(t, list(3, 5), lists(list(0, 1)))
	wantBuckets(t, list(4, 5), lists(list(0, 1)))
	wantBuckets(t, list(1, 2, 3, 4, 5), lists(list(0, 1, 2, 3), list(4)))
	wantBuckets(t, list(5, 4, 0), lists(list(1, 2), list(0)))
	wantBuckets(t, list(5, 4, 1), lists(list(1, 2), list(0)))
	wantBuckets(t, list(5, 4, 2), lists(list(0, 1, 2)))
}

// P12.1: just twice the mean, one less, one more, where the mean has no rest.
func TestTwiceTheMean(t *testing.T) {
	for _, mean := range []int{3, 5, 100, 1 << 20, top/2 - 1} {
		wantBuckets(t, list(mean, 2*mean-1), lists(list(0, 1)))
		wantBuckets(t, list(mean, 2*mean), lists(list(0, 1)))
		wantBuckets(t, list(mean, 2*mean+1), lists(list(0), list(1)))
		wantBuckets(t, list(2*mean-1, mean-1, mean, mean+1), lists(list(0, 1, 2, 3)))
		wantBuckets(t, list(2*mean, mean-1, mean, mean+1), lists(list(0, 1, 2, 3)))
		wantBuckets(t, list(2*mean+1, mean-1, mean, mean+1), lists(list(1, 2, 3), list(0)))
	}
}

// P12.1: likewise where the mean has a rest, which does not count: neither in the mean nor in what is twice it.
func TestTwiceTheMeanWithRest(t *testing.T) {
	for _, mean := range []int{5, 100, 1 << 20, top/2 - 1} {
		for _, bucket := range [][]int{
			list(mean, mean+1),
			list(mean, mean, mean+1),
			list(mean, mean+1, mean+1),
			list(mean-1, mean+1, mean+2),
			list(mean, mean+1, mean+1, mean+1, mean+1, mean+1, mean+1),
		} {
			var numbers []int
			for i := range bucket {
				numbers = append(numbers, i)
			}
			n := len(bucket)
			wantBuckets(t, append(slices.Clone(bucket), 2*mean-1), lists(append(slices.Clone(numbers), n)))
			wantBuckets(t, append(slices.Clone(bucket), 2*mean), lists(append(slices.Clone(numbers), n)))
			wantBuckets(t, append(slices.Clone(bucket), 2*mean+1), lists(numbers, list(n)))
		}
	}
}

// P12.1: rests are not lost: many of them make the mean greater.
func TestRestsAddUp(t *testing.T) {
	// The sum is 10 + 9 * 11 + 20, its mean 11 with a rest of 8: one more of 20 makes it 12 with a rest of 5.
	sizes := append(slices.Repeat(list(11), 9), 10, 20, 20)
	wantBuckets(t, append(slices.Clone(sizes), 24), slowBuckets(append(slices.Clone(sizes), 24)))
	all := list(0, 1, 2, 3, 4, 5, 6, 7, 8, 9, 10, 11)
	wantBuckets(t, append(slices.Clone(sizes), 24), lists(append(slices.Clone(all), 12)))
	wantBuckets(t, append(slices.Clone(sizes), 25), lists(all, list(12)))
}

// P12.1: the mean is that of the last bucket alone, and of the sizes so far alone.
func TestMeanOfTheLastBucket(t *testing.T) {
	wantBuckets(t, list(5, 11, 22, 33), lists(list(0), list(1, 2), list(3)))
	wantBuckets(t, list(5, 11, 22, 32, 42), lists(list(0), list(1, 2, 3, 4)))
	wantBuckets(t, list(5, 11, 22, 32, 43), lists(list(0), list(1, 2, 3), list(4)))
	wantBuckets(t, list(1, 10, 100, 1000), lists(list(0), list(1), list(2), list(3)))
	wantBuckets(t, list(10, 20, 40), lists(list(0, 1), list(2)))
}

// P12.1: the order in which the sizes stand is no matter but for their numbers, which rise in each bucket.
func TestOrders(t *testing.T) {
	wantBuckets(t, list(9, 10, 12, 100, 150, 1000), lists(list(0, 1, 2), list(3, 4), list(5)))
	wantBuckets(t, list(1000, 150, 100, 12, 10, 9), lists(list(3, 4, 5), list(1, 2), list(0)))
	wantBuckets(t, list(100, 9, 1000, 12, 150, 10), lists(list(1, 3, 5), list(0, 4), list(2)))
	wantBuckets(t, list(12, 10, 100, 9, 100, 12), lists(list(0, 1, 3, 5), list(2, 4)))
}

// P12.2: the bucket with the most, be it the first, a middle one, the last; of several the first.
func TestMost(t *testing.T) {
	wantChoice(t, list(10, 10, 10, 100, 100, 1000), 2, list(0, 1, 2))
	wantChoice(t, list(10, 100, 100, 1000, 1000, 1000), 2, list(3, 4, 5))
	wantChoice(t, list(10, 10, 100, 100, 100, 1000, 1000), 2, list(2, 3, 4))
	wantChoice(t, list(1000, 100, 10, 1000, 100, 10), 2, list(2, 5))
	wantChoice(t, list(1, 1000, 100, 10, 1000, 100, 10), 2, list(3, 6))
	wantChoice(t, list(1000, 1000, 1000, 100, 100, 100, 10, 10), 2, list(3, 4, 5))
	wantChoice(t, list(10, 100, 1000), 2, nil)
}

// P12.2: least below 2 counts as 2; just as many as the greatest bucket has; one more.
func TestLeast(t *testing.T) {
	sizes := list(100, 10, 100, 1000, 100, 10)
	for _, least := range []int{math.MinInt, math.MinInt + 1, -3, -1, 0, 1, 2, 3} {
		wantChoice(t, sizes, least, list(0, 2, 4))
		wantChoice(t, list(10, 100, 1000), least, nil)
	}
	for _, least := range []int{4, 5, 6, 7, 1 << 40, math.MaxInt - 1, math.MaxInt} {
		wantChoice(t, sizes, least, nil)
	}
	wantChoice(t, list(10, 10), math.MinInt, list(0, 1))
	wantChoice(t, list(10, 10), 2, list(0, 1))
	wantChoice(t, list(10, 10), 3, nil)
}

// P12.1 and P12.2: all short lists of edges, against the slow form.
func TestAllShortLists(t *testing.T) {
	sizes := []int{math.MinInt, 0, 1, 4, 5, 8, 9, 10, 11, top / 2, top, math.MaxInt}
	for _, a := range sizes {
		for _, b := range sizes {
			for _, c := range sizes {
				for _, d := range sizes {
					l := list(a, b, c, d)
					wantBuckets(t, l, slowBuckets(l))
					for least := 1; least <= 5; least++ {
						wantChoice(t, l, least, slowChoose(l, least))
					}
				}
			}
		}
	}
}

// P12.1 and P12.2: against the slow form.
func TestAgainstSlow(t *testing.T) {
	source := rand.New(rand.NewPCG(12, 0))
	for range 8000 {
		sizes := anySizes(source, 30)
		wantBuckets(t, sizes, slowBuckets(sizes))
		least := source.IntN(10) - 2
		wantChoice(t, sizes, least, slowChoose(sizes, least))
		wantChoice(t, sizes, math.MinInt, slowChoose(sizes, math.MinInt))
	}
	for range 100 {
		sizes := anySizes(source, 300)
		wantBuckets(t, sizes, slowBuckets(sizes))
	}
}

// P12.3: each table is in one bucket, no bucket is empty, and the sizes of each are less than those of the next.
func TestEachInOneBucket(t *testing.T) {
	source := rand.New(rand.NewPCG(13, 0))
	for range 4000 {
		sizes := anySizes(source, 60)
		met := make([]int, len(sizes))
		before := -1
		for _, bucket := range tiers.Buckets(sizes) {
			if len(bucket) == 0 || !slices.IsSorted(bucket) {
				t.Fatalf("Buckets(%v): a bucket %v", sizes, bucket)
			}
			greatest := before
			for _, i := range bucket {
				met[i]++
				if slowSize(sizes[i]) <= before {
					t.Fatalf("Buckets(%v): %d is in a bucket behind its sizes", sizes, i)
				}
				greatest = max(greatest, slowSize(sizes[i]))
			}
			before = greatest
		}
		for i, n := range met {
			if n != 1 {
				t.Fatalf("Buckets(%v): %d is in %d buckets", sizes, i, n)
			}
		}
	}
}
