package check_test

import (
	"math"
	"reflect"
	"slices"
	"testing"

	"skerry/api"
	"skerry/check"
	"skerry/syntax"
)

func texts() []string {
	return []string{
		"CREATE TABLE v (k TEXT, r INT, a TEXT, b INT, PRIMARY KEY (k, r))",
		"CREATE TABLE t (k TEXT, r INT, a TEXT, b INT, PRIMARY KEY (k, r))",
		"INSERT INTO t (b, k, a, r) VALUES (7, 'x', 'y', -5) USING TIMESTAMP 9",
		"INSERT INTO t (b, k, a) VALUES (7, 'x', 'y')",
		"UPDATE t SET b = 7, c = 8 WHERE r = 5 AND k = 'x' CONSISTENCY QUORUM",
		"UPDATE t SET b = 7, c = 8 WHERE r = 5",
		"DELETE b, c FROM t WHERE k = 'x' AND r = 5",
		"DELETE FROM t WHERE k = 'x' AND r = 5",
		"SELECT b, a FROM t WHERE k = 'x' AND r >= 5 AND r < 9",
		"SELECT * FROM u WHERE r = 'x'",
		"SELECT * FROM z WHERE r = 'x'",
	}
}

// roomy: a list that has room behind its end, in which something stands.
func roomy[T any](l []T, behind ...T) []T {
	return append(slices.Clip(l), behind...)[:len(l)]
}

func roomyStatement(q api.Statement) api.Statement {
	q.Schema.Columns = roomy(q.Schema.Columns, api.Column{Name: "y", Kind: api.Int}, api.Column{})
	q.Items = roomy(q.Items, set("c", number(77)), set("z", text("z")))
	q.Columns = roomy(q.Columns, "c", "z")
	q.Where = roomy(q.Where, cond("r", ">=", number(77)), cond("z", "=", number(77)))
	return q
}

func roomyTables() []api.Table {
	l := someTables()
	for i := range l {
		l[i].Columns = roomy(l[i].Columns, api.Column{Name: "z", Kind: api.Str}, api.Column{Name: "y"})
	}
	return roomy(l, api.Table{Name: "z", Part: "r", Row: "k", Columns: []api.Column{{Name: "a", Kind: api.Int}}}, api.Table{Name: "v"}, api.Table{})
}

// whole: what stands in a statement's lists, behind their ends too, in memory of its own.
func whole(q api.Statement) api.Statement {
	q.Schema.Columns = slices.Clone(q.Schema.Columns[:cap(q.Schema.Columns)])
	q.Items, q.Columns = slices.Clone(q.Items[:cap(q.Items)]), slices.Clone(q.Columns[:cap(q.Columns)])
	q.Where = slices.Clone(q.Where[:cap(q.Where)])
	return q
}

func wholeTables(l []api.Table) []api.Table {
	l = slices.Clone(l[:cap(l)])
	for i := range l {
		l[i].Columns = slices.Clone(l[i].Columns[:cap(l[i].Columns)])
	}
	return l
}

func spoil[T any](l []T, with T) {
	l = l[:cap(l)]
	for i := range l {
		l[i] = with
	}
}

func spoilPlan(p check.Plan) {
	spoil(p.Table.Columns, api.Column{Name: "spoilt", Kind: 77})
	spoil(p.Items, set("spoilt", number(77)))
	spoil(p.Columns, "spoilt")
}

// R3: Check changes nothing that is handed in, and does not look behind a list's end.
func TestArgumentsStay(t *testing.T) {
	for _, s := range texts() {
		q, tables := roomyStatement(parsed(t, s)), roomyTables()
		was, were := whole(q), wholeTables(tables)
		p, e := check.Check(q, tables, api.One)
		want, fault := check.Check(parsed(t, s), someTables(), api.One)
		if !alike(p, want) || e != fault {
			t.Errorf("%s: %+v %v, want %+v %v: what stands behind the ends is seen", s, p, e, want, fault)
		}
		spoilPlan(p)
		if !reflect.DeepEqual(whole(q), was) || !reflect.DeepEqual(wholeTables(tables), were) {
			t.Errorf("%s: an argument was changed: %+v %+v", s, whole(q), wholeTables(tables))
		}
	}
}

// R3: a plan is new memory: what is done to the arguments, or to another plan, is not seen in it.
func TestPlansAreNew(t *testing.T) {
	for _, s := range texts() {
		q, tables := roomyStatement(parsed(t, s)), roomyTables()
		want, fault, _ := slowCheck(parsed(t, s), someTables(), api.One)
		first, _ := check.Check(q, tables, api.One)
		second, e := check.Check(q, tables, api.One)
		all := copied(first)
		if slices.ContainsFunc(all.Items[len(first.Items):], func(i api.Item) bool { return i != api.Item{} }) ||
			slices.ContainsFunc(all.Columns[len(first.Columns):], func(name string) bool { return name != "" }) ||
			slices.ContainsFunc(all.Table.Columns[len(first.Table.Columns):], func(c api.Column) bool { return c != api.Column{} }) {
			t.Errorf("%s: something stands behind a list's end: %+v", s, all)
		}
		spoilPlan(first)
		spoil(q.Items, set("spoilt", number(7)))
		spoil(q.Columns, "spoilt")
		spoil(q.Where, cond("spoilt", ">", number(7)))
		spoil(q.Schema.Columns, api.Column{Name: "spoilt", Kind: 7})
		for _, x := range tables[:cap(tables)] {
			spoil(x.Columns, api.Column{Name: "spoilt", Kind: 7})
		}
		spoil(tables, api.Table{Name: "spoilt"})
		if !alike(second, want) || e != fault {
			t.Errorf("%s: %+v %v, want %+v %v", s, second, e, want, fault)
		}
	}
}

// R1: whatever tables there are, Check ends and does not panic, and tells a plan or an error.
func TestAnyTables(t *testing.T) {
	column := []api.Column{{Name: "a", Kind: 9}, {Name: "a", Kind: api.Int}, {}, {Name: "k", Kind: api.Int}, {Name: "r", Kind: api.Str}}
	for _, x := range []api.Table{
		{Name: "t"}, {Name: "t", Columns: column}, {Name: "t", Part: "k", Columns: column}, {Name: "t", Row: "r", Columns: column},
		{Name: "t", Part: "k", Row: "k", Columns: column}, {Name: "t", Part: "r", Row: "r"}, {Name: "t", Part: "k", Row: "r", Columns: column}, {Name: "t", Part: "k", Row: "r"},
		{Name: "t", Part: "k", Row: "r", Columns: slices.Repeat(column, 9)},
	} {
		ask := func(q api.Statement) {
			for _, level := range []int{api.One, 0, math.MinInt, math.MaxInt} {
				p, e := check.Check(q, []api.Table{x}, level)
				if (e == api.OK) != (p.Kind == q.Kind) || e != api.OK && !reflect.DeepEqual(p, check.Plan{}) {
					t.Fatalf("Check(%s, %+v): %+v %v", syntax.Print(q), x, p, e)
				}
				check.Cells(p, level, level)
			}
		}
		lists(3, someItems(), func(l []api.Item) {
			if len(l) > 0 {
				ask(api.Statement{Kind: api.DoInsert, Table: "t", Items: l})
				ask(api.Statement{Kind: api.DoUpdate, Table: "t", Items: l, Where: oneRow()})
			}
		})
		lists(2, someConds(), func(l []api.Cond) {
			if len(l) > 0 {
				ask(api.Statement{Kind: api.DoDelete, Table: "t", Where: l})
				ask(api.Statement{Kind: api.DoSelect, Table: "t", Columns: []string{"a"}, Where: l})
			}
		})
	}
}

// R4: an answer is the same whatever was asked ahead of it, and in whichever order.
func TestNothingIsKept(t *testing.T) {
	type answers struct {
		p     check.Plan
		e     api.Errno
		cells []api.Cell
	}
	var all []api.Statement
	for _, s := range texts() {
		all = append(all, parsed(t, s), api.Statement{Kind: 7})
	}
	ask := func(i int) answers {
		p, e := check.Check(all[i%len(all)], someTables(), i%5)
		return answers{p, e, check.Cells(p, i%7, i%3)}
	}
	const many = 500
	var first [many]answers
	for i := range many {
		first[i] = ask(i)
	}
	for i := many - 1; i >= 0; i-- {
		if got := ask(i); !reflect.DeepEqual(got, first[i]) {
			t.Fatalf("call %d: %+v, and %+v at first", i, got, first[i])
		}
	}
}

// R4: calls at the same time answer the same, and none writes what another one reads (asked with -race).
func TestAtTheSameTime(t *testing.T) {
	q, wrong := parsed(t, texts()[2]), parsed(t, texts()[3])
	tables := someTables()
	want, _ := check.Check(q, tables, api.One)
	cells := check.Cells(want, 1, 2)
	done := make(chan bool)
	const many = 8
	for range many {
		go func() {
			ok := true
			for range 200 {
				p, e := check.Check(q, tables, api.One)
				_, fault := check.Check(wrong, tables, api.One)
				ok = ok && e == api.OK && fault == api.ErrColumn && alike(p, want) && slices.Equal(check.Cells(want, 1, 2), cells)
			}
			done <- ok
		}()
	}
	for range many {
		if !<-done {
			t.Error("an answer is another one")
		}
	}
}
