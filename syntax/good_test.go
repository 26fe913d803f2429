package syntax_test

import (
	"math"
	"slices"
	"strings"
	"testing"

	"skerry/api"
	"skerry/syntax"
)

// clone: a statement that shares no list with the other.
func clone(q api.Statement) api.Statement {
	q.Schema.Columns = slices.Clone(q.Schema.Columns)
	q.Items, q.Columns, q.Where = slices.Clone(q.Items), slices.Clone(q.Columns), slices.Clone(q.Where)
	return q
}

// with: a statement in which something is changed.
func with(q api.Statement, change func(q *api.Statement)) api.Statement {
	q = clone(q)
	change(&q)
	return q
}

// ofKind: those of the samples.
func ofKind(kinds ...int) []api.Statement {
	return slices.DeleteFunc(samples(), func(q api.Statement) bool { return !slices.Contains(kinds, q.Kind) })
}

// badNames: texts that are no names.
func badNames() []string {
	l := append(theWords(), "", "T", "aB", "1", "1a", "_", "_a", "a b", " a", "a ", "a\n", "a-b", "a.b", "é", "aé", "\xff", "a\x00", "'a'", "*", "a, b", "a--", "abcdefghijklmnopq", strings.Repeat("a", 1000))
	for _, word := range theWords() {
		l = append(l, strings.ToLower(word))
	}
	return l
}

// badValues: those that no literal is.
func badValues() []api.Value {
	return []api.Value{{}, {Kind: api.None, N: 1}, {Kind: api.None, S: "x"}, {Kind: api.Int, N: 1, S: "x"}, {Kind: api.Int, S: "x"}, {Kind: api.Str, N: 1}, {Kind: api.Str, N: -1, S: "x"},
		{Kind: 3}, {Kind: 3, N: 1}, {Kind: -1}, {Kind: math.MaxInt}, {Kind: math.MinInt, S: "x"}, text(strings.Repeat("a", api.MaxText+1)), text(strings.Repeat("\x00", api.MaxText+1)), text(strings.Repeat("é", 33))}
}

// goodValues: those that some literal is.
func goodValues() []api.Value {
	return []api.Value{number(0), number(1), number(-1), number(math.MaxInt), number(math.MinInt), text(""), text("x"), text("it's 5%"), text("\x00\n\xff"), text(strings.Repeat("a", api.MaxText)), text(strings.Repeat("\x00", api.MaxText)), text(strings.Repeat("é", 32)), text("SELECT"), text("(,)")}
}

// P19.2: a Kind that is none, and a Table that is no name.
func TestGoodKindAndTable(t *testing.T) {
	wantBad(t, api.Statement{})
	for _, q := range samples() {
		wantGood(t, q)
		for _, kind := range []int{0, -1, 6, 7, 100, math.MinInt, math.MaxInt} {
			wantBad(t, with(q, func(q *api.Statement) { q.Kind = kind }))
		}
		for _, name := range badNames() {
			wantBad(t, with(q, func(q *api.Statement) { q.Table = name }))
			wantBad(t, with(q, func(q *api.Statement) { q.Table, q.Schema.Name = name, name }))
		}
		for kind := api.DoCreate; kind <= api.DoSelect; kind++ {
			wantGoodAsSlow(t, with(q, func(q *api.Statement) { q.Kind = kind }))
		}
	}
	for kind := api.DoCreate; kind <= api.DoSelect; kind++ {
		wantBad(t, api.Statement{Kind: kind})
		wantBad(t, api.Statement{Kind: kind, Table: "t"})
	}
}

func wantGoodAsSlow(t *testing.T, q api.Statement) bool {
	t.Helper()
	good := slowGood(q)
	if good {
		wantGood(t, q)
	} else {
		wantBad(t, q)
	}
	return good
}

// P19.2: parts that the Kind does not have are not set.
func TestGoodOtherParts(t *testing.T) {
	parts := map[string]func(q *api.Statement){
		"Schema.Name":    func(q *api.Statement) { q.Schema.Name = "t" },
		"Schema.Part":    func(q *api.Statement) { q.Schema.Part = "k" },
		"Schema.Row":     func(q *api.Statement) { q.Schema.Row = "r" },
		"Schema.Columns": func(q *api.Statement) { q.Schema.Columns = make([]api.Column, 1) },
		"Items":          func(q *api.Statement) { q.Items = []api.Item{set("a", number(1))} },
		"zero Items":     func(q *api.Statement) { q.Items = make([]api.Item, 1) },
		"Columns":        func(q *api.Statement) { q.Columns = []string{"a"} },
		"zero Columns":   func(q *api.Statement) { q.Columns = []string{""} },
		"Where":          func(q *api.Statement) { q.Where = oneRow() },
		"zero Where":     func(q *api.Statement) { q.Where = make([]api.Cond, 1) },
		"Limit":          func(q *api.Statement) { q.Limit = 1 },
		"no Limit":       func(q *api.Statement) { q.Limit = -1 },
		"Time":           func(q *api.Statement) { q.Time = 1 },
		"Timed":          func(q *api.Statement) { q.Timed = true },
		"Level":          func(q *api.Statement) { q.Level = api.One },
	}
	without := map[int][]string{
		api.DoCreate: {"Items", "zero Items", "Columns", "zero Columns", "Where", "zero Where", "Limit", "no Limit", "Time", "Timed", "Level"},
		api.DoInsert: {"Schema.Name", "Schema.Part", "Schema.Row", "Schema.Columns", "Columns", "zero Columns", "Where", "zero Where", "Limit", "no Limit"},
		api.DoUpdate: {"Schema.Name", "Schema.Part", "Schema.Row", "Schema.Columns", "Columns", "zero Columns", "Limit", "no Limit"},
		api.DoDelete: {"Schema.Name", "Schema.Part", "Schema.Row", "Schema.Columns", "Items", "zero Items", "Limit", "no Limit"},
		api.DoSelect: {"Schema.Name", "Schema.Part", "Schema.Row", "Schema.Columns", "Items", "zero Items", "Time", "Timed"},
	}
	for _, q := range samples() {
		for _, part := range without[q.Kind] {
			wantBad(t, with(q, parts[part]))
		}
		for _, change := range parts {
			wantGoodAsSlow(t, with(q, change))
		}
		// An empty list is none.
		wantGood(t, with(q, func(q *api.Statement) {
			q.Schema.Columns = append([]api.Column{}, q.Schema.Columns...)
			q.Items, q.Columns, q.Where = append([]api.Item{}, q.Items...), append([]string{}, q.Columns...), append([]api.Cond{}, q.Where...)
		}))
	}
}

// P19.2: a time is there if it is Timed, and then it may be 0; a Level is 0 or a level; a Limit is -1 to 1000000.
func TestGoodTimeLevelLimit(t *testing.T) {
	for _, q := range ofKind(api.DoInsert, api.DoUpdate, api.DoDelete) {
		for _, n := range []int{1, -1, 7, math.MinInt, math.MaxInt} {
			wantBad(t, with(q, func(q *api.Statement) { q.Timed, q.Time = false, n }))
			wantGood(t, with(q, func(q *api.Statement) { q.Timed, q.Time = true, n }))
		}
		wantGood(t, with(q, func(q *api.Statement) { q.Timed, q.Time = false, 0 }))
		wantGood(t, with(q, func(q *api.Statement) { q.Timed, q.Time = true, 0 }))
	}
	for _, q := range ofKind(api.DoInsert, api.DoUpdate, api.DoDelete, api.DoSelect) {
		for _, least := range []int{0, api.One, api.Quorum, api.All} {
			wantGood(t, with(q, func(q *api.Statement) { q.Level = least }))
		}
		for _, least := range []int{-1, -2, 4, 5, 256, 1 << 32, 1<<32 + 1, math.MinInt, math.MaxInt} {
			wantBad(t, with(q, func(q *api.Statement) { q.Level = least }))
		}
	}
	for _, q := range ofKind(api.DoSelect) {
		for _, n := range []int{-1, 0, 1, 2, 999999, 1000000} {
			wantGood(t, with(q, func(q *api.Statement) { q.Limit = n }))
		}
		for _, n := range []int{-2, -3, -1000000, 1000001, 1000002, 1 << 32, math.MinInt, math.MaxInt} {
			wantBad(t, with(q, func(q *api.Statement) { q.Limit = n }))
		}
	}
}

// P19.2: a Schema has the statement's Table as its Name, names, and 1 to MaxCols columns of the two kinds.
func TestGoodSchema(t *testing.T) {
	for _, q := range ofKind(api.DoCreate) {
		for _, name := range append(badNames(), "u", "k") {
			wantBad(t, with(q, func(q *api.Statement) { q.Schema.Name = name }))
		}
		for _, name := range badNames() {
			wantBad(t, with(q, func(q *api.Statement) { q.Schema.Part = name }))
			wantBad(t, with(q, func(q *api.Statement) { q.Schema.Row = name }))
			for i := range q.Schema.Columns {
				wantBad(t, with(q, func(q *api.Statement) { q.Schema.Columns[i].Name = name }))
			}
		}
		for _, kind := range []int{api.None, 3, -1, math.MinInt, math.MaxInt} {
			for i := range q.Schema.Columns {
				wantBad(t, with(q, func(q *api.Statement) { q.Schema.Columns[i].Kind = kind }))
			}
		}
		for n := range 20 {
			long := with(q, func(q *api.Statement) {
				q.Schema.Columns = slices.Repeat([]api.Column{{Name: "a", Kind: api.Int}}, n)
			})
			if n >= 1 && n <= api.MaxCols {
				wantGood(t, long)
			} else {
				wantBad(t, long)
			}
		}
		// Names that are alike are no matter of the text.
		wantGood(t, with(q, func(q *api.Statement) {
			q.Schema.Part, q.Schema.Row, q.Schema.Columns[0].Name = "t", "t", "t"
		}))
	}
}

// P19.2: 1 to 10 items, each a name and a literal.
func TestGoodItems(t *testing.T) {
	for _, q := range ofKind(api.DoInsert, api.DoUpdate) {
		for i := range q.Items {
			for _, name := range badNames() {
				wantBad(t, with(q, func(q *api.Statement) { q.Items[i].Column = name }))
			}
			for _, v := range badValues() {
				wantBad(t, with(q, func(q *api.Statement) { q.Items[i].Value = v }))
			}
			for _, v := range goodValues() {
				wantGood(t, with(q, func(q *api.Statement) { q.Items[i].Value = v }))
			}
		}
		for n := range 20 {
			long := with(q, func(q *api.Statement) { q.Items = slices.Repeat(q.Items[:1], n) })
			if n >= 1 && n <= 10 {
				wantGood(t, long)
			} else {
				wantBad(t, long)
			}
		}
		wantBad(t, with(q, func(q *api.Statement) { q.Items = nil }))
	}
}

// P19.2: none to 10 columns, each a name.
func TestGoodColumns(t *testing.T) {
	for _, q := range ofKind(api.DoDelete, api.DoSelect) {
		for i := range q.Columns {
			for _, name := range badNames() {
				wantBad(t, with(q, func(q *api.Statement) { q.Columns[i] = name }))
			}
		}
		for n := range 20 {
			long := with(q, func(q *api.Statement) { q.Columns = slices.Repeat([]string{"a"}, n) })
			if n <= 10 {
				wantGood(t, long)
			} else {
				wantBad(t, long)
			}
		}
	}
}

// P19.2: 1 to 4 conditions, each a name, an operator and a literal.
func TestGoodWhere(t *testing.T) {
	for _, q := range ofKind(api.DoUpdate, api.DoDelete, api.DoSelect) {
		for i := range q.Where {
			for _, name := range badNames() {
				wantBad(t, with(q, func(q *api.Statement) { q.Where[i].Column = name }))
			}
			for _, v := range badValues() {
				wantBad(t, with(q, func(q *api.Statement) { q.Where[i].Value = v }))
			}
			for _, v := range goodValues() {
				wantGood(t, with(q, func(q *api.Statement) { q.Where[i].Value = v }))
			}
			for _, op := range []string{"=", ">=", "<"} {
				wantGood(t, with(q, func(q *api.Statement) { q.Where[i].Op = op }))
			}
			for _, op := range append(theWords(), "", ">", "<=", "==", "=>", "<>", "!=", "(", ")", ",", "*", " =", "= ", "a", "1", "'='", "= 1 AND a =", "\x00", "\xff") {
				wantBad(t, with(q, func(q *api.Statement) { q.Where[i].Op = op }))
			}
		}
		for n := range 10 {
			long := with(q, func(q *api.Statement) { q.Where = slices.Repeat(q.Where[:1], n) })
			if n >= 1 && n <= 4 {
				wantGood(t, long)
			} else {
				wantBad(t, long)
			}
		}
	}
}

// P19.2: Print's words, blanks and order, written out.
func TestPrint(t *testing.T) {
	items := []api.Item{set("k", text("it's 5%")), set("r", number(math.MinInt)), set("a", text(""))}
	where := []api.Cond{cond("k", "=", text("(,)")), cond("r", ">=", number(-5)), cond("r", "<", number(5))}
	for _, c := range []struct {
		q    api.Statement
		want string
	}{
		{api.Statement{}, ""},
		{api.Statement{Kind: api.DoCreate, Table: "t", Schema: api.Table{Name: "t", Part: "k", Row: "r", Columns: []api.Column{{Name: "a", Kind: api.Int}, {Name: "b", Kind: api.Str}}}},
			"CREATE TABLE t (k TEXT, r INT, a INT, b TEXT, PRIMARY KEY (k, r))"},
		{api.Statement{Kind: api.DoInsert, Table: "t", Items: items}, "INSERT INTO t (k, r, a) VALUES ('it%27s 5%25', -9223372036854775808, '')"},
		{api.Statement{Kind: api.DoInsert, Table: "t", Items: items[2:], Timed: true, Time: -7, Level: api.One}, "INSERT INTO t (a) VALUES ('') USING TIMESTAMP -7 CONSISTENCY ONE"},
		{api.Statement{Kind: api.DoUpdate, Table: "t", Items: items, Where: where, Timed: true, Level: api.Quorum},
			"UPDATE t USING TIMESTAMP 0 SET k = 'it%27s 5%25', r = -9223372036854775808, a = '' WHERE k = '(,)' AND r >= -5 AND r < 5 CONSISTENCY QUORUM"},
		{api.Statement{Kind: api.DoUpdate, Table: "t", Items: items[2:], Where: where[:1]}, "UPDATE t SET a = '' WHERE k = '(,)'"},
		{api.Statement{Kind: api.DoDelete, Table: "t", Where: where[:1], Timed: true, Time: math.MaxInt, Level: api.All}, "DELETE FROM t USING TIMESTAMP 9223372036854775807 WHERE k = '(,)' CONSISTENCY ALL"},
		{api.Statement{Kind: api.DoDelete, Table: "t", Columns: []string{"b", "a"}, Where: where[1:]}, "DELETE b, a FROM t WHERE r >= -5 AND r < 5"},
		{api.Statement{Kind: api.DoSelect, Table: "t", Where: where[:1], Limit: -1, Level: api.Quorum}, "SELECT * FROM t WHERE k = '(,)' CONSISTENCY QUORUM"},
		{api.Statement{Kind: api.DoSelect, Table: "t", Columns: []string{"b", "a"}, Where: where[:1], Limit: 1000000, Level: api.All}, "SELECT b, a FROM t WHERE k = '(,)' LIMIT 1000000 CONSISTENCY ALL"},
		{api.Statement{Kind: api.DoSelect, Table: "t", Where: where[:1]}, "SELECT * FROM t WHERE k = '(,)' LIMIT 0"},
	} {
		if got := syntax.Print(c.q); got != c.want {
			t.Errorf("Print(%+v): %s, want %s", c.q, got, c.want)
		}
	}
}

// P19.2 and P19.3: a statement is good whatever the length of its text; of MaxQuery bytes that is parsed to it, of one more it is not.
func TestGoodOfLongTexts(t *testing.T) {
	q := api.Statement{Kind: api.DoUpdate, Table: "t", Where: oneRow()}
	for _, name := range named("c", 10) {
		q.Items = append(q.Items, set(name, text(strings.Repeat("\x00", api.MaxText))))
		wantGood(t, q)
	}
	if n := len(syntax.Print(q)); n < 2000 {
		t.Errorf("%d bytes: too few", n)
	}
	q.Items = q.Items[:3]
	lengths := map[int]int{}
	for n := range api.MaxText {
		q.Items[2].Value = text(strings.Repeat("x", n))
		q.Where[0].Value, q.Where[1].Value = text(strings.Repeat("y", api.MaxText)), text(strings.Repeat("z", api.MaxText))
		wantGood(t, q)
		lengths[len(syntax.Print(q))]++
	}
	if lengths[api.MaxQuery] == 0 || lengths[api.MaxQuery+1] == 0 {
		t.Errorf("no text of %d bytes, or none of one more: %v", api.MaxQuery, lengths)
	}
}
