package check_test

import (
	"math"
	"slices"
	"strings"
	"testing"

	"skerry/api"
	"skerry/check"
)

// oneRow: the conditions of row 5 of x.
func oneRow() []api.Cond { return []api.Cond{cond("k", "=", text("x")), cond("r", "=", number(5))} }

// permutations: a list in all its orders.
func permutations[T any](l []T) [][]T {
	if len(l) == 0 {
		return [][]T{nil}
	}
	var out [][]T
	for i := range l {
		for _, rest := range permutations(slices.Concat(l[:i], l[i+1:])) {
			out = append(out, append([]T{l[i]}, rest...))
		}
	}
	return out
}

// subsets: all lists of some of a list, in its order.
func subsets[T any](l []T) [][]T {
	if len(l) == 0 {
		return [][]T{nil}
	}
	var out [][]T
	for _, rest := range subsets(l[1:]) {
		out = append(out, rest, append([]T{l[0]}, rest...))
	}
	return out
}

// P20.1: INSERT of each set of columns, in each order of the items: the plan's are in the table's order.
func TestInsertInAnyOrder(t *testing.T) {
	all := []api.Item{set("c", number(-1)), set("a", text("y")), set("b", number(2))}
	for _, some := range subsets(all) {
		want := check.Plan{Kind: api.DoInsert, Table: someTable(), Part: "x", Row: 5, Items: some, Level: api.One}
		for _, items := range permutations(append([]api.Item{set("k", text("x")), set("r", number(5))}, some...)) {
			wantAnswer(t, api.Statement{Kind: api.DoInsert, Table: "t", Items: items}, someTables(), api.One, want, api.OK)
		}
	}
}

// P20.1: INSERT with a column that the table lacks, which one it is and wherever it stands.
func TestInsertOfNoColumn(t *testing.T) {
	items := []api.Item{set("k", text("x")), set("r", number(5)), set("a", text("y")), set("b", number(2))}
	for _, name := range []string{"t", "z", "kk", "aa", "u"} {
		for at := range len(items) + 1 {
			for _, v := range []api.Value{number(1), text("x")} {
				wantAnswer(t, api.Statement{Kind: api.DoInsert, Table: "t", Items: slices.Insert(slices.Clone(items), at, set(name, v))}, someTables(), api.One, check.Plan{}, api.ErrColumn)
			}
		}
	}
	wantFault(t, api.ErrColumn, "INSERT INTO t (z) VALUES (1)", "INSERT INTO t (z, k, k) VALUES (1, 'x', 'x')", "INSERT INTO t (k, k, z) VALUES (1, 'x', 'x')")
}

// P20.1: INSERT with each of its columns twice, the values being alike or not.
func TestInsertTwice(t *testing.T) {
	items := []api.Item{set("k", text("x")), set("r", number(5)), set("c", number(1)), set("a", text("y")), set("b", number(2))}
	for i := range items {
		for at := range len(items) + 1 {
			for _, v := range []api.Value{items[i].Value, number(7), text("z"), text("")} {
				wantAnswer(t, api.Statement{Kind: api.DoInsert, Table: "t", Items: slices.Insert(slices.Clone(items), at, set(items[i].Column, v))}, someTables(), api.One, check.Plan{}, api.ErrExists)
			}
		}
	}
	wantFault(t, api.ErrExists, "INSERT INTO t (a, a) VALUES (1, 2)", "INSERT INTO t (k, k) VALUES ('x', 'x')", "INSERT INTO t (r, r) VALUES ('x', 'x')", "INSERT INTO t (k, a, a) VALUES (1, 'x', 'x')")
}

// P20.1: INSERT without Part, without Row, and without both.
func TestInsertWithoutKey(t *testing.T) {
	wantFault(t, api.ErrColumn,
		"INSERT INTO t (k) VALUES ('x')", "INSERT INTO t (r) VALUES (1)", "INSERT INTO t (a) VALUES ('x')",
		"INSERT INTO t (k, a, b, c) VALUES ('x', 'y', 1, 2)", "INSERT INTO t (a, b, c, r) VALUES ('y', 1, 2, 3)",
		"INSERT INTO t (a, b, c) VALUES ('y', 1, 2)", "INSERT INTO t (k) VALUES ('')", "INSERT INTO t (k) VALUES (1)",
		"INSERT INTO t (r) VALUES ('x')", "INSERT INTO t (k, a) VALUES ('x', 1)", "INSERT INTO t (r, b) VALUES (1, 'x')")
}

// P20.1: INSERT with values of each other kind, of one or of more; an empty Part behind them.
func TestInsertOfOtherKinds(t *testing.T) {
	kinds := map[string]int{"k": api.Str, "r": api.Int, "c": api.Int, "a": api.Str, "b": api.Int}
	names := []string{"b", "k", "a", "r", "c"}
	for _, wrong := range subsets(names) {
		for _, empty := range []string{"x", ""} {
			var items []api.Item
			for _, name := range names {
				v := text(empty)
				if (kinds[name] == api.Int) != slices.Contains(wrong, name) {
					v = number(7)
				}
				items = append(items, set(name, v))
			}
			q := api.Statement{Kind: api.DoInsert, Table: "t", Items: items}
			switch {
			case len(wrong) > 0:
				wantAnswer(t, q, someTables(), api.One, check.Plan{}, api.ErrType)
			case empty == "":
				wantAnswer(t, q, someTables(), api.One, check.Plan{}, api.ErrArg)
			default:
				wantAnswer(t, q, someTables(), api.One, check.Plan{Kind: api.DoInsert, Table: someTable(), Part: "x", Row: 7, Items: []api.Item{set("c", number(7)), set("a", text("x")), set("b", number(7))}, Level: api.One}, api.OK)
			}
		}
	}
}

// P20.1: INSERT of the key's ends: the least and the greatest row, the shortest and the longest Part, and an empty one.
func TestInsertOfEnds(t *testing.T) {
	for _, n := range []int{0, 1, -1, math.MinInt, math.MaxInt} {
		for _, part := range []string{"y", "/", "%", "\x00", "\xff", "é", " ", strings.Repeat("z", api.MaxText), ""} {
			q := api.Statement{Kind: api.DoInsert, Table: "t", Items: []api.Item{set("r", number(n)), set("a", text("")), set("k", text(part))}}
			if part == "" {
				wantAnswer(t, q, someTables(), api.One, check.Plan{}, api.ErrArg)
				continue
			}
			wantAnswer(t, q, someTables(), api.One, check.Plan{Kind: api.DoInsert, Table: someTable(), Part: part, Row: n, Items: []api.Item{set("a", text(""))}, Level: api.One}, api.OK)
		}
	}
}

// P20.1: UPDATE of each set of columns, in each order of the items.
func TestUpdateInAnyOrder(t *testing.T) {
	for _, some := range subsets([]api.Item{set("c", number(-1)), set("a", text("")), set("b", number(2))}) {
		if len(some) == 0 {
			continue
		}
		want := check.Plan{Kind: api.DoUpdate, Table: someTable(), Part: "x", Row: 5, Items: some, Level: api.One}
		for _, items := range permutations(some) {
			for _, where := range permutations(oneRow()) {
				wantAnswer(t, api.Statement{Kind: api.DoUpdate, Table: "t", Items: items, Where: where}, someTables(), api.One, want, api.OK)
			}
		}
	}
}

// P20.1: UPDATE of columns that are none (Part and Row are none either), of one twice, of another kind.
func TestUpdateFaults(t *testing.T) {
	for fault, lists := range map[api.Errno][]string{
		api.ErrColumn: {"z = 1", "k = 'x'", "r = 5", "t = 1", "b = 1, z = 1", "z = 1, b = 1", "b = 1, k = 'x'", "r = 5, b = 1", "b = 1, b = 1, z = 1", "z = 1, z = 1", "b = 'x', k = 'x'", "k = 1", "r = 'x'", "a = 1, a = 1, r = 5"},
		api.ErrExists: {"b = 1, b = 1", "b = 1, b = 2", "a = 'x', b = 1, a = 'x'", "b = 'x', b = 1", "b = 1, b = 'x'", "c = 1, b = 1, a = 'x', c = 1", "a = 1, b = 1, b = 2"},
		api.ErrType:   {"b = 'x'", "a = 1", "c = ''", "b = 1, a = 1", "a = 1, b = 1", "b = 'x', a = 'x'", "c = 'x', a = 1, b = 'x'"},
	} {
		for _, list := range lists {
			for _, where := range []string{"k = 'x' AND r = 5", "k = 'x'", "z = 1", "k = 1 AND r = 5", "k = '' AND r = 5"} {
				wantFault(t, fault, "UPDATE t SET "+list+" WHERE "+where)
			}
		}
	}
}

// P20.1: columns of DELETE and of SELECT, in any order, twice, or none; Whole is DELETE's alone.
func TestColumns(t *testing.T) {
	for _, some := range subsets([]string{"c", "a", "b"}) {
		remove := check.Plan{Kind: api.DoDelete, Table: someTable(), Part: "x", Row: 5, Columns: some, Whole: len(some) == 0, Level: api.One}
		choose := check.Plan{Kind: api.DoSelect, Table: someTable(), Part: "x", Columns: some, Low: 5, High: 5, Limit: -1, Level: api.One}
		if len(some) == 0 {
			remove.Columns, choose.Columns = []string{"c", "a", "b"}, []string{"c", "a", "b"}
		}
		for _, columns := range permutations(some) {
			for _, given := range [][]string{columns, slices.Concat(columns, columns), slices.Concat(columns, columns, columns)} {
				wantAnswer(t, api.Statement{Kind: api.DoDelete, Table: "t", Columns: given, Where: oneRow()}, someTables(), api.One, remove, api.OK)
				wantAnswer(t, api.Statement{Kind: api.DoSelect, Table: "t", Columns: given, Where: oneRow(), Limit: -1}, someTables(), api.One, choose, api.OK)
			}
		}
	}
}

// P20.1: columns that are none of the table's, ahead of what is wrong in the WHERE.
func TestNoColumns(t *testing.T) {
	for _, list := range []string{"z", "k", "r", "t", "a, z", "z, a", "k, r", "a, b, c, k", "a, a, r", "u"} {
		for _, where := range []string{"k = 'x' AND r = 5", "k = 'x'", "z = 1", "k = 1", "r = 'x' AND k = ''", "k = ''"} {
			wantFault(t, api.ErrColumn, "DELETE "+list+" FROM t WHERE "+where, "SELECT "+list+" FROM t WHERE "+where)
		}
	}
}

// P20.1: each Limit goes into a SELECT's plan; none is -1.
func TestLimits(t *testing.T) {
	for _, n := range []int{-1, 0, 1, 2, 77, 999999, 1000000} {
		q := api.Statement{Kind: api.DoSelect, Table: "t", Where: oneRow(), Limit: n}
		wantAnswer(t, q, someTables(), api.One, check.Plan{Kind: api.DoSelect, Table: someTable(), Part: "x", Columns: []string{"c", "a", "b"}, Low: 5, High: 5, Limit: n, Level: api.One}, api.OK)
	}
}

// P20.1: Time and Timed are the statement's.
func TestTimes(t *testing.T) {
	for _, n := range []int{0, 1, -1, math.MinInt, math.MaxInt} {
		for _, q := range []api.Statement{
			{Kind: api.DoInsert, Table: "t", Items: []api.Item{set("k", text("x")), set("r", number(5))}},
			{Kind: api.DoUpdate, Table: "t", Items: []api.Item{set("b", number(1))}, Where: oneRow()},
			{Kind: api.DoDelete, Table: "t", Where: oneRow()},
		} {
			if p, e := check.Check(q, someTables(), api.One); p.Time != 0 || p.Timed || e != api.OK {
				t.Errorf("not timed: %+v %v", p, e)
			}
			q.Time, q.Timed = n, true
			if p, e := check.Check(q, someTables(), api.One); p.Time != n || !p.Timed || e != api.OK {
				t.Errorf("time %d: %+v %v", n, p, e)
			}
		}
	}
}
