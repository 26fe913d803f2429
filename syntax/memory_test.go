package syntax_test

import (
	"reflect"
	"slices"
	"strings"
	"testing"

	"skerry/api"
	"skerry/syntax"
)

// spoil changes each cell of a statement's lists, the room behind their ends too.
func spoil(q api.Statement) {
	for i := range q.Schema.Columns[:cap(q.Schema.Columns)] {
		q.Schema.Columns[:cap(q.Schema.Columns)][i] = api.Column{Name: "spoilt", Kind: 77}
	}
	for i := range q.Items[:cap(q.Items)] {
		q.Items[:cap(q.Items)][i] = set("spoilt", number(77))
	}
	for i := range q.Columns[:cap(q.Columns)] {
		q.Columns[:cap(q.Columns)][i] = "spoilt"
	}
	for i := range q.Where[:cap(q.Where)] {
		q.Where[:cap(q.Where)][i] = cond("spoilt", ">", number(77))
	}
}

// roomy: a statement whose lists have room behind their ends, in which something stands.
func roomy(q api.Statement) api.Statement {
	n, m := len(q.Items), len(q.Columns)
	q = clone(q)
	c, w := len(q.Schema.Columns), len(q.Where)
	q.Schema.Columns = append(q.Schema.Columns, api.Column{Name: "z", Kind: api.Str}, api.Column{Name: "y"})[:c]
	q.Items = append(q.Items, set("z", text("z")), set("y", number(1)))[:n]
	q.Columns = append(q.Columns, "z", "y")[:m]
	q.Where = append(q.Where, cond("z", "<", text("z")), cond("y", "=", number(1)))[:w]
	return q
}

// whole: a statement with the room behind its lists' ends as a part of them.
func whole(q api.Statement) api.Statement {
	q.Schema.Columns = q.Schema.Columns[:cap(q.Schema.Columns)]
	q.Items, q.Columns, q.Where = q.Items[:cap(q.Items)], q.Columns[:cap(q.Columns)], q.Where[:cap(q.Where)]
	return q
}

// R3: what Parse told is new, the room behind its lists' ends too: what is done to it is seen in no other answer.
func TestParseIsNew(t *testing.T) {
	for _, q := range samples() {
		s := slowPrint(q)
		first, _, _ := syntax.Parse(s)
		second, _, _ := syntax.Parse(s)
		all := whole(first)
		for _, behind := range []bool{
			slices.ContainsFunc(all.Schema.Columns[len(first.Schema.Columns):], func(c api.Column) bool { return c != api.Column{} }),
			slices.ContainsFunc(all.Items[len(first.Items):], func(i api.Item) bool { return i != api.Item{} }),
			slices.ContainsFunc(all.Columns[len(first.Columns):], func(name string) bool { return name != "" }),
			slices.ContainsFunc(all.Where[len(first.Where):], func(c api.Cond) bool { return c != api.Cond{} }),
		} {
			if behind {
				t.Fatalf("Parse(%q): something stands behind a list's end: %+v", s, all)
			}
		}
		spoil(first)
		third, _, _ := syntax.Parse(s)
		if !alike(second, q) || !alike(third, q) {
			t.Fatalf("Parse(%q): what was done to an answer is seen: %+v %+v, want %+v", s, second, third, q)
		}
	}
}

// R3: Print, Good and Same change nothing, behind the lists' ends neither, and do not look there.
func TestArgumentsStay(t *testing.T) {
	others := append(samples(), full(), api.Statement{}, api.Statement{Kind: api.DoSelect, Table: "t", Columns: []string{"b", "a"}, Limit: -2})
	for _, q := range others {
		given, second := roomy(q), roomy(q)
		was := clone(whole(given))
		printed, good, same := syntax.Print(given), syntax.Good(given), syntax.Same(given, second)
		if !reflect.DeepEqual(whole(given), was) || !reflect.DeepEqual(whole(second), was) {
			t.Fatalf("%+v was changed: %+v %+v", was, whole(given), whole(second))
		}
		if printed != syntax.Print(q) || good != slowGood(q) || !same {
			t.Fatalf("%+v: %q %v %v, and what stands behind the ends is seen", q, printed, good, same)
		}
		spoil(second)
		if syntax.Print(given) != printed || syntax.Good(given) != good || !syntax.Same(given, q) {
			t.Fatalf("%+v: answers that hang on another statement", q)
		}
	}
}

// R4: an answer is the same whatever was asked ahead of it, and in whichever order.
func TestNothingIsKept(t *testing.T) {
	all := samples()
	texts := []string{"", "SELECT", "SELECT ?", strings.Repeat("a", 700), "CREATE TABLE t (k TEXT, r INT, a INT, PRIMARY KEY (r, k))", "INSERT INTO t (a, b) VALUES (1)"}
	for _, q := range all {
		texts = append(texts, slowPrint(q), slowPrint(q)+" AND")
	}
	type answers struct {
		q       api.Statement
		at      int
		e       api.Errno
		printed string
		good    bool
	}
	ask := func(i int) answers {
		var a answers
		a.q, a.at, a.e = syntax.Parse(texts[i%len(texts)])
		a.printed, a.good = syntax.Print(all[i%len(all)]), syntax.Good(a.q)
		return a
	}
	const many = 1500
	var first [many]answers
	for i := range many {
		first[i] = ask(i)
	}
	for i := many - 1; i >= 0; i-- {
		if got := ask(i); !reflect.DeepEqual(got, first[i]) {
			t.Fatalf("call %d: %+v, and %+v at first", i, got, first[i])
		}
	}
}

// R4: calls at the same time answer the same, and none writes what another one reads (asked with -race).
func TestAtTheSameTime(t *testing.T) {
	const s = "update T using timestamp 5 set a = 'it%27s', b = -1_0 where k >= 5 consistency one -- note"
	want, _, _ := syntax.Parse(s)
	printed := slowPrint(want)
	done := make(chan bool)
	const many = 8
	for range many {
		go func() {
			ok := true
			for range 200 {
				q, at, e := syntax.Parse(s)
				ok = ok && alike(q, want) && at == 0 && e == api.OK
				_, at, e = syntax.Parse(s + "\n(")
				ok = ok && at == len(s)+1 && e == api.ErrSyntax
				ok = ok && syntax.Good(want) && syntax.Print(want) == printed && syntax.Same(q, want)
			}
			done <- ok
		}()
	}
	for range many {
		if !<-done {
			t.Error("an answer is another one")
		}
	}
}
