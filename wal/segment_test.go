package wal_test

import (
	"math"
	"math/rand/v2"
	"strconv"
	"testing"

	"skerry/disk"
	"skerry/wal"
)

func wantNumber(t *testing.T, name string, want int, is bool) {
	t.Helper()
	if got, ok := wal.Number(name); got != want || ok != is {
		t.Errorf("Number(%q): %d, %v, want %d, %v", name, got, ok, want, is)
	}
}

// P7.1: numbers that a segment may have, and that Number undoes Name.
func TestNames(t *testing.T) {
	for n, want := range map[int]string{
		1: "log-1", 2: "log-2", 9: "log-9", 10: "log-10", 99: "log-99", 100: "log-100", 101: "log-101",
		12345: "log-12345", 99999999: "log-99999999", 100000000: "log-100000000", 999999998: "log-999999998", 999999999: "log-999999999",
	} {
		if got := wal.Name(n); got != want {
			t.Errorf("Name(%d): %q, want %q", n, got, want)
		}
		wantNumber(t, want, n, true)
		if !disk.Good(want) {
			t.Errorf("no file may be called %q", want)
		}
	}
	source := rand.New(rand.NewPCG(1, 0))
	for range 2000 {
		n := 1 + source.IntN(999999999)
		if got, want := wal.Name(n), "log-"+strconv.Itoa(n); got != want {
			t.Errorf("Name(%d): %q, want %q", n, got, want)
		}
		wantNumber(t, wal.Name(n), n, true)
	}
}

// P7.1
func TestNamesOfNothing(t *testing.T) {
	for _, n := range []int{math.MinInt, -1000000000, -999999999, -2, -1, 0, 1000000000, 1000000001, 9999999999, math.MaxInt32, math.MaxInt} {
		if got := wal.Name(n); got != "" {
			t.Errorf("Name(%d): %q, want nothing", n, got)
		}
	}
}

// P7.1: names that are none of a segment's, also such as a number could be read from.
func TestNumbersOfNothing(t *testing.T) {
	for _, name := range []string{
		"", "l", "log", "log-", "-1", "1", "log1", "log.1", "log_1", "log.new", "log-new", "Log-1", "LOG-1", "log--", "log-log-1", "tab-1", "xlog-1",
		"log-0", "log-00", "log-01", "log-001", "log-0000000001", "log-0999999999",
		"log--1", "log-+1", "log--0", "log-+0", "log--999999999",
		"log-1000000000", "log-1000000001", "log-9999999999", "log-9223372036854775807", "log-9223372036854775808", "log-18446744073709551617", "log-99999999999999999999",
		"log-1 ", " log-1", "log- 1", "log-1\n", "log-1\x00", "log-1.", "log-1.0", "log-1e3", "log-0x1", "log-0b1", "log-1_0", "log-a", "log-1a", "log-a1",
		"log-\u0661", "log-\uff11", "log-\xff",
	} {
		wantNumber(t, name, 0, false)
	}
}

// P7.1: a name whose bytes are turned one by one is a segment's just where it is a Name.
func TestNumbersNearNames(t *testing.T) {
	for _, name := range []string{"log-7", "log-10", "log-999999999"} {
		for at := range len(name) {
			for c := range 256 {
				near := name[:at] + string([]byte{byte(c)}) + name[at+1:]
				digit := at == 4 && '1' <= c && c <= '9' || at > 4 && '0' <= c && c <= '9'
				if !digit && near != name {
					wantNumber(t, near, 0, false)
					continue
				}
				n, err := strconv.Atoi(near[4:])
				if err != nil {
					t.Fatal(err)
				}
				wantNumber(t, near, n, true)
			}
		}
	}
}
