package level_test

import (
	"math"
	"math/big"
	"math/bits"
	"testing"

	"skerry/api"
	"skerry/level"
)

// sets: each set of so many of the replicas, as bits.
func sets(replicas, many int) []uint {
	var out []uint
	for set := range uint(1) << replicas {
		if bits.OnesCount(set) == many {
			out = append(out, set)
		}
	}
	return out
}

// inCommon: has each set of the one list a replica in common with each one of the other?
func inCommon(a, b []uint) bool {
	for _, x := range a {
		for _, y := range b {
			if x&y == 0 {
				return false
			}
		}
	}
	return true
}

// P16.2: levels meet just where each set that answers a read and each that answers a write have a replica in common.
func TestSetsHaveOneInCommon(t *testing.T) {
	for copies := 1; copies <= 9; copies++ {
		for _, read := range levels() {
			for _, write := range levels() {
				readers, writers := sets(copies, level.Need(read, copies)), sets(copies, level.Need(write, copies))
				if len(readers) == 0 || len(writers) == 0 {
					t.Fatalf("no set of %d or of %d of %d replicas", level.Need(read, copies), level.Need(write, copies), copies)
				}
				wantMeet(t, read, write, copies, inCommon(readers, writers))
			}
		}
	}
}

// P16.2: quorums meet, whatever the copies are; so does ALL with each level.
func TestQuorumsMeet(t *testing.T) {
	copies := someCopies()
	for c := 1; c <= 3000; c++ {
		copies = append(copies, c, math.MaxInt-c)
	}
	for _, c := range copies {
		wantMeet(t, api.Quorum, api.Quorum, c, true)
		for _, l := range levels() {
			wantMeet(t, api.All, l, c, true)
			wantMeet(t, l, api.All, c, true)
		}
	}
}

// P16.1, P16.2 and R6: Meet is what Need tells, added up in numbers of any size.
func TestMeetIsMoreThanCopies(t *testing.T) {
	all := append(noLevels(), levels()...)
	for _, copies := range append(noCopies(), someCopies()...) {
		for _, read := range all {
			for _, write := range all {
				r, w := level.Need(read, copies), level.Need(write, copies)
				sum := new(big.Int).Add(big.NewInt(int64(r)), big.NewInt(int64(w)))
				wantMeet(t, read, write, copies, r > 0 && w > 0 && sum.Cmp(big.NewInt(int64(copies))) > 0)
				if level.Meet(read, write, copies) != level.Meet(write, read, copies) {
					t.Errorf("Meet(%d, %d, %d) is not as the other way round", read, write, copies)
				}
			}
		}
	}
}
