package check_test

import (
	"math"
	"strconv"
	"testing"

	"skerry/api"
	"skerry/check"
)

// ofRow: the texts of the two kinds whose WHERE is of one row.
func ofRow(where string) []string {
	return []string{"UPDATE t SET b = 1 WHERE " + where, "DELETE FROM t WHERE " + where, "DELETE a, a FROM t WHERE " + where}
}

func ofRows(where string) []string {
	return []string{"SELECT * FROM t WHERE " + where, "SELECT a FROM t WHERE " + where + " LIMIT 1"}
}

// P20.1: the WHERE of one row has Part = and Row =, in either order.
func TestOneRow(t *testing.T) {
	for _, part := range []string{"x", "it%27s", "%00"} {
		for _, row := range []int{0, 5, -5, math.MinInt, math.MaxInt} {
			k, r := "k = '"+part+"'", "r = "+strconv.Itoa(row)
			for _, where := range []string{k + " AND " + r, r + " AND " + k} {
				want := map[string]string{"x": "x", "it%27s": "it's", "%00": "\x00"}[part]
				wantPlan(t, "UPDATE t SET b = 1 WHERE "+where, check.Plan{Kind: api.DoUpdate, Table: someTable(), Part: want, Row: row, Items: []api.Item{set("b", number(1))}, Level: api.One})
				wantPlan(t, "DELETE a FROM t WHERE "+where, check.Plan{Kind: api.DoDelete, Table: someTable(), Part: want, Row: row, Columns: []string{"a"}, Level: api.One})
			}
		}
	}
}

// P20.1: the WHERE of one row with one condition, with three or four, with one of them twice, with another operator.
func TestNotOneRow(t *testing.T) {
	for _, where := range []string{
		"k = 'x'", "r = 5", "k >= 'x'", "r < 5",
		"k = 'x' AND k = 'x'", "r = 5 AND r = 5", "k = 'x' AND k = 'y'", "r = 5 AND r = 6",
		"k = 'x' AND r = 5 AND r = 5", "k = 'x' AND k = 'x' AND r = 5", "r = 5 AND k = 'x' AND r = 5", "k = 'x' AND r = 5 AND k = 'x'",
		"k = 'x' AND r = 5 AND r >= 5", "k = 'x' AND r = 5 AND r < 6", "k = 'x' AND r >= 5 AND r < 6", "k = 'x' AND r = 5 AND k >= 'x'",
		"k = 'x' AND k = 'x' AND r = 5 AND r = 5", "k = 'x' AND r = 5 AND r >= 5 AND r < 6", "k = 'x' AND k = 'x' AND k = 'x' AND r = 5",
		"k >= 'x' AND r = 5", "k < 'x' AND r = 5", "k = 'x' AND r >= 5", "k = 'x' AND r < 5", "r < 5 AND k >= 'x'", "r = 5 AND k < 'x'", "r >= 5 AND k = 'x'",
		"k = '' AND r = 5", "r = 5 AND k = ''", "k = ''", "k = '' AND k = 'x'", "k >= '' AND r = 5",
	} {
		wantFault(t, api.ErrArg, ofRow(where)...)
	}
}

// P20.1: a condition on anything but Part and Row is ErrColumn, in all kinds, ahead of kinds and counts.
func TestWhereOfOtherColumns(t *testing.T) {
	for _, where := range []string{
		"a = 'x'", "b = 1", "z = 1", "t = 'x'", "a = 1", "z < 'x'", "u >= 1",
		"k = 'x' AND r = 5 AND b = 1", "b = 1 AND k = 'x' AND r = 5", "k = 'x' AND b = 1 AND r = 5",
		"k = 'x' AND b = 1", "r = 5 AND a = 'x'", "k = 1 AND b = 1", "b = 1 AND k = 1", "r = 'x' AND z = 1", "z = 1 AND r = 'x'",
		"k = '' AND b = 1", "k = 'x' AND k = 'x' AND b = 1", "k = 'x' AND r = 5 AND r = 5 AND c = 1", "k >= 'x' AND c = 1",
	} {
		wantFault(t, api.ErrColumn, ofRow(where)...)
		wantFault(t, api.ErrColumn, ofRows(where)...)
	}
}

// P20.1: Part's value that is no Str, Row's that is no Int, with any operator, ahead of counts and of an empty Part.
func TestWhereOfOtherKinds(t *testing.T) {
	for _, where := range []string{
		"k = 1", "k >= 1", "k < 1", "r = 'x'", "r >= ''", "r < 'x'",
		"k = 1 AND r = 5", "k = 'x' AND r = 'x'", "r = 'x' AND k = 1", "r = 5 AND k = 1",
		"k = 'x' AND k = 1", "r = 5 AND r = 'x'", "k = 'x' AND r = 5 AND r = ''", "k = 1 AND k = 'x' AND r = 5",
		"k = '' AND r = 'x'", "r = 'x' AND k = ''", "k = '' AND k = 1", "k = 'x' AND r >= 1 AND r < 'x'", "k >= 'x' AND r = 'x'", "k = 0 AND r = 5 AND r = 5",
	} {
		wantFault(t, api.ErrType, ofRow(where)...)
		wantFault(t, api.ErrType, ofRows(where)...)
	}
}

// wantBounds: the least and the greatest row of a SELECT's plan.
func wantBounds(t *testing.T, where string, low, high int) {
	t.Helper()
	wantPlan(t, "SELECT * FROM t WHERE "+where, check.Plan{Kind: api.DoSelect, Table: someTable(), Part: "x", Columns: []string{"c", "a", "b"}, Low: low, High: high, Limit: -1, Level: api.One})
}

// P20.1: the WHERE of rows: Part alone, and with each condition on Row, in each order.
func TestRows(t *testing.T) {
	bounds := []int{0, 1, -1, 5, -5, math.MaxInt, math.MaxInt - 1, math.MinInt, math.MinInt + 1}
	below := func(low, n int) (int, int) {
		if n == math.MinInt {
			return 1, 0
		}
		return low, n - 1
	}
	wantBounds(t, "k = 'x'", math.MinInt, math.MaxInt)
	for _, n := range bounds {
		s := strconv.Itoa(n)
		low, high := below(math.MinInt, n)
		for where, want := range map[string][2]int{"r = " + s: {n, n}, "r >= " + s: {n, math.MaxInt}, "r < " + s: {low, high}} {
			wantBounds(t, "k = 'x' AND "+where, want[0], want[1])
			wantBounds(t, where+" AND k = 'x'", want[0], want[1])
		}
		for _, m := range bounds {
			low, high := below(m, n)
			for _, order := range permutations([]string{"k = 'x'", "r >= " + strconv.Itoa(m), "r < " + s}) {
				wantBounds(t, order[0]+" AND "+order[1]+" AND "+order[2], low, high)
			}
		}
	}
}

// P20.1: bounds, written out: the ends, Low above High, and below the least int.
func TestBounds(t *testing.T) {
	const least, greatest = "-9223372036854775808", "9223372036854775807"
	wantBounds(t, "k = 'x' AND r < "+least, 1, 0)
	wantBounds(t, "k = 'x' AND r >= "+least+" AND r < "+least, 1, 0)
	wantBounds(t, "k = 'x' AND r < "+least+" AND r >= -7", 1, 0)
	wantBounds(t, "k = 'x' AND r >= 7 AND r < "+least, 1, 0)
	wantBounds(t, "k = 'x' AND r < -9223372036854775807", math.MinInt, math.MinInt)
	wantBounds(t, "k = 'x' AND r < "+greatest, math.MinInt, math.MaxInt-1)
	wantBounds(t, "k = 'x' AND r >= "+greatest, math.MaxInt, math.MaxInt)
	wantBounds(t, "k = 'x' AND r >= "+least, math.MinInt, math.MaxInt)
	wantBounds(t, "k = 'x' AND r = "+least, math.MinInt, math.MinInt)
	wantBounds(t, "k = 'x' AND r = "+greatest, math.MaxInt, math.MaxInt)
	wantBounds(t, "k = 'x' AND r >= 5 AND r < 5", 5, 4)
	wantBounds(t, "k = 'x' AND r >= 9 AND r < 5", 9, 4)
	wantBounds(t, "k = 'x' AND r >= "+greatest+" AND r < -5", math.MaxInt, -6)
	wantBounds(t, "k = 'x' AND r >= 5 AND r < 6", 5, 5)
}

// P20.1: the WHERE of rows without Part, with it twice or with another operator; of Row more than it may be.
func TestNotRows(t *testing.T) {
	for _, where := range []string{
		"r = 5", "r >= 5", "r < 5", "r >= 5 AND r < 6",
		"k >= 'x'", "k < 'x'", "k >= 'x' AND r = 5", "k < 'x' AND r >= 5 AND r < 6",
		"k = 'x' AND k = 'x'", "k = 'x' AND k = 'y'", "k = 'x' AND k >= 'x'", "k < 'x' AND k = 'x'", "k >= 'a' AND k < 'b'", "k = 'x' AND r = 5 AND k = 'x'",
		"k = 'x' AND r = 5 AND r = 5", "k = 'x' AND r = 5 AND r = 6", "k = 'x' AND r = 5 AND r >= 5", "k = 'x' AND r >= 5 AND r = 5", "k = 'x' AND r < 6 AND r = 5", "k = 'x' AND r = 5 AND r < 6",
		"k = 'x' AND r = 5 AND r >= 5 AND r < 6", "k = 'x' AND r >= 5 AND r < 6 AND r = 5", "k = 'x' AND r = 5 AND r = 5 AND r = 5",
		"k = 'x' AND r >= 5 AND r >= 5", "k = 'x' AND r < 5 AND r < 5", "k = 'x' AND r >= 5 AND r >= 6 AND r < 9", "r >= 5 AND k = 'x' AND r < 9 AND r < 8", "r < 5 AND r >= 1 AND r < 5 AND k = 'x'",
		"k = ''", "k = '' AND r = 5", "r >= 5 AND k = ''", "k = '' AND r = 5 AND r = 5", "k >= ''",
	} {
		wantFault(t, api.ErrArg, ofRows(where)...)
	}
}
