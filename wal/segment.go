package wal

import (
	"strconv"
	"strings"
)

const (
	prefix   = "log-"
	greatest = 999999999
)

// Name: a segment's.
func Name(n int) string {
	if !possible(n) {
		return ""
	}
	return prefix + strconv.Itoa(n)
}

// Number: of a name.
func Number(name string) (int, bool) {
	n, err := strconv.Atoi(strings.TrimPrefix(name, prefix))
	// A number may be written in other ways, too: without what stands ahead of it, with a sign, with noughts.
	if err != nil || Name(n) != name {
		return 0, false
	}
	return n, true
}

// possible: may a segment have that number?
func possible(n int) bool {
	return 1 <= n && n <= greatest
}
