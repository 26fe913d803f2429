package syntax_test

import (
	"math/rand/v2"
	"reflect"
	"strings"
	"testing"

	"skerry/api"
	"skerry/syntax"
)

// The seeds are written out, so that a test that failed fails again.
func newSource(seed uint64) *rand.Rand {
	return rand.New(rand.NewPCG(seed, 0))
}

func anyOf[T any](source *rand.Rand, l []T) T {
	return l[source.IntN(len(l))]
}

func number(n int) api.Value { return api.Value{Kind: api.Int, N: n} }

func text(s string) api.Value { return api.Value{Kind: api.Str, S: s} }

func set(column string, v api.Value) api.Item { return api.Item{Column: column, Value: v} }

func cond(column, op string, v api.Value) api.Cond {
	return api.Cond{Column: column, Op: op, Value: v}
}

// oneRow: the conditions that most of the tests have, and their text.
func oneRow() []api.Cond {
	return []api.Cond{cond("k", "=", text("x")), cond("r", "=", number(1))}
}

const oneRowText = "WHERE k = 'x' AND r = 1"

// plain: a statement with nil for each empty list, so that all its fields can be compared at once.
func plain(q api.Statement) api.Statement {
	if len(q.Items) == 0 {
		q.Items = nil
	}
	if len(q.Columns) == 0 {
		q.Columns = nil
	}
	if len(q.Where) == 0 {
		q.Where = nil
	}
	if len(q.Schema.Columns) == 0 {
		q.Schema.Columns = nil
	}
	return q
}

func alike(a, b api.Statement) bool { return reflect.DeepEqual(plain(a), plain(b)) }

// A test that wants much ends with the first answer that is another one.
func wantParse(t *testing.T, s string, want api.Statement) {
	t.Helper()
	got, at, e := syntax.Parse(s)
	if !alike(got, want) || at != 0 || e != api.OK {
		t.Fatalf("Parse(%q): %+v %d %v, want %+v", s, got, at, e, want)
	}
	wantGood(t, want)
}

// wantGood: of a statement that some text is parsed to, and P19.3 of it.
func wantGood(t *testing.T, q api.Statement) {
	t.Helper()
	if !syntax.Good(q) {
		t.Fatalf("Good(%+v) is false", q)
	}
	s := syntax.Print(q)
	if s != slowPrint(q) {
		t.Fatalf("Print(%+v): %s, want %s", q, s, slowPrint(q))
	}
	got, at, e := syntax.Parse(s)
	if len(s) > api.MaxQuery {
		if !alike(got, api.Statement{}) || at != 0 || e != api.ErrText {
			t.Fatalf("Parse(%q): %+v %d %v, and the text is too long", s, got, at, e)
		}
		return
	}
	if !alike(got, q) || at != 0 || e != api.OK {
		t.Fatalf("Parse(%q): %+v %d %v, printed of %+v", s, got, at, e, q)
	}
}

func wantBad(t *testing.T, q api.Statement) {
	t.Helper()
	if syntax.Good(q) {
		t.Fatalf("Good(%+v) is true", q)
	}
	if s := syntax.Print(q); s != "" {
		t.Fatalf("Print(%+v): %s", q, s)
	}
}

func wantNone(t *testing.T, s string, byteOf int, want api.Errno) {
	t.Helper()
	got, at, e := syntax.Parse(s)
	if !alike(got, api.Statement{}) || at != byteOf || e != want {
		t.Fatalf("Parse(%q): %+v %d %v, want %d %v", s, got, at, e, byteOf, want)
	}
}

// wantWrong: of a text in which a ^ stands ahead of the byte that is wrong.
func wantWrong(t *testing.T, marked string) {
	t.Helper()
	ahead, behind, ok := strings.Cut(marked, "^")
	if !ok || behind != "" && strings.TrimSpace(behind[:1]) == "" {
		t.Fatalf("%q: no ^ ahead of a token", marked)
	}
	wantNone(t, ahead+behind, len(ahead), api.ErrSyntax)
}

// P19.1 and P19.2: the examples of the chapter.
func TestExamples(t *testing.T) {
	q := api.Statement{Kind: api.DoSelect, Table: "t", Where: []api.Cond{cond("k", "=", text("x"))}, Limit: -1}
	wantParse(t, "SELECT * FROM t WHERE k='x'", q)
	if s := syntax.Print(q); s != "SELECT * FROM t WHERE k = 'x'" {
		t.Errorf("Print: %s", s)
	}
	wantNone(t, "SELECT a", 8, api.ErrSyntax)
}

// P19.1: a statement of each kind, with all its parts.
func TestStatements(t *testing.T) {
	wantParse(t, "CREATE TABLE People (name TEXT, Year INT, a INT, b_2 TEXT, PRIMARY KEY (name, year))", api.Statement{
		Kind: api.DoCreate, Table: "people",
		Schema: api.Table{Name: "people", Part: "name", Row: "year", Columns: []api.Column{{Name: "a", Kind: api.Int}, {Name: "b_2", Kind: api.Str}}},
	})
	wantParse(t, "insert into t (k, r, a) values ('it%27s', -1_000, 7) using timestamp -5 consistency quorum -- a note", api.Statement{
		Kind: api.DoInsert, Table: "t",
		Items: []api.Item{set("k", text("it's")), set("r", number(-1000)), set("a", number(7))},
		Time:  -5, Timed: true, Level: api.Quorum,
	})
	wantParse(t, "UPDATE t USING TIMESTAMP 8 SET a=1,b='' WHERE k='x' AND r=1 CONSISTENCY ALL", api.Statement{
		Kind: api.DoUpdate, Table: "t", Items: []api.Item{set("a", number(1)), set("b", text(""))}, Where: oneRow(),
		Time: 8, Timed: true, Level: api.All,
	})
	wantParse(t, "DELETE b, a\r\nFROM t\tUSING TIMESTAMP 0 WHERE k='x' AND r=1 CONSISTENCY ONE", api.Statement{
		Kind: api.DoDelete, Table: "t", Columns: []string{"b", "a"}, Where: oneRow(), Timed: true, Level: api.One,
	})
	wantParse(t, "Select a, A, b From t Where k='x' And r>=-5 And r<5 And k<'' Limit 3 Consistency One", api.Statement{
		Kind: api.DoSelect, Table: "t", Columns: []string{"a", "a", "b"},
		Where: []api.Cond{cond("k", "=", text("x")), cond("r", ">=", number(-5)), cond("r", "<", number(5)), cond("k", "<", text(""))},
		Limit: 3, Level: api.One,
	})
}

// P19.1: each kind with each of its parts there and left out.
func TestPartsLeftOut(t *testing.T) {
	for _, q := range samples() {
		wantParse(t, slowPrint(q), q)
	}
	wantParse(t, "INSERT INTO t (a) VALUES (1)", api.Statement{Kind: api.DoInsert, Table: "t", Items: []api.Item{set("a", number(1))}})
	wantParse(t, "UPDATE t SET a = 1 "+oneRowText, api.Statement{Kind: api.DoUpdate, Table: "t", Items: []api.Item{set("a", number(1))}, Where: oneRow()})
	wantParse(t, "DELETE FROM t "+oneRowText, api.Statement{Kind: api.DoDelete, Table: "t", Where: oneRow()})
	wantParse(t, "DELETE a FROM t "+oneRowText, api.Statement{Kind: api.DoDelete, Table: "t", Columns: []string{"a"}, Where: oneRow()})
	wantParse(t, "SELECT a FROM t "+oneRowText, api.Statement{Kind: api.DoSelect, Table: "t", Columns: []string{"a"}, Where: oneRow(), Limit: -1})
	wantParse(t, "SELECT * FROM t "+oneRowText+" LIMIT 0", api.Statement{Kind: api.DoSelect, Table: "t", Where: oneRow()})
}

// samples: statements of each kind, with each choice of the parts that may be left out, and lists of 1 and of more.
func samples() []api.Statement {
	l := []api.Statement{
		{Kind: api.DoCreate, Table: "t", Schema: api.Table{Name: "t", Part: "k", Row: "r", Columns: []api.Column{{Name: "a", Kind: api.Int}}}},
		{Kind: api.DoCreate, Table: "t", Schema: api.Table{Name: "t", Part: "k", Row: "r", Columns: []api.Column{{Name: "a", Kind: api.Str}, {Name: "b", Kind: api.Int}}}},
	}
	items := [][]api.Item{{set("a", number(-1))}, {set("k", text("x")), set("r", number(1))}}
	columns := [][]string{nil, {"a"}, {"a", "b", "c"}}
	where := [][]api.Cond{{cond("k", "=", text("x"))}, {cond("k", "<", text("x")), cond("r", ">=", number(-1))}}
	for i := range 16 {
		q := api.Statement{Table: "t", Level: i % 4, Timed: i/4%2 == 1, Time: i / 4 % 2 * 7}
		insert, update, remove, choose := q, q, q, q
		insert.Kind, insert.Items = api.DoInsert, items[i/8]
		update.Kind, update.Items, update.Where = api.DoUpdate, items[i/8], where[i/4%2]
		remove.Kind, remove.Columns, remove.Where = api.DoDelete, columns[(i+i/4)%3], where[i/8]
		choose.Kind, choose.Columns, choose.Where = api.DoSelect, columns[(i+i/4)%3], where[i/8]
		choose.Limit, choose.Timed, choose.Time = i/4%2*10-1, false, 0
		l = append(l, insert, update, remove, choose)
	}
	return l
}
