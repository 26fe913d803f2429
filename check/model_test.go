package check_test

import (
	"math"
	"slices"
	"strings"
	"testing"

	"skerry/api"
	"skerry/check"
	"skerry/schema"
	"skerry/syntax"
)

// claim is one thing that the chapter wants of a statement.
type claim struct {
	name  string
	fault api.Errno
	holds bool
}

// slowCheck tells all that the chapter wants of a statement, in its order, and the plan that holds if all of that does.
func slowCheck(q api.Statement, tables []api.Table, level int) (check.Plan, api.Errno, []claim) {
	claims, p := slowClaims(q, tables, level)
	for _, c := range claims {
		if !c.holds {
			return check.Plan{}, c.fault, claims
		}
	}
	return p, api.OK, claims
}

func slowClaims(q api.Statement, tables []api.Table, level int) ([]claim, check.Plan) {
	p := check.Plan{Kind: q.Kind}
	if !syntax.Good(q) {
		return []claim{{"good", api.ErrSyntax, false}}, p
	}
	at := slices.IndexFunc(tables, func(t api.Table) bool { return t.Name == q.Table })
	if q.Kind == api.DoCreate {
		p.Table = q.Schema
		e := schema.Table(q.Schema)
		return []claim{{"may be", e, e == api.OK}, {"new", api.ErrExists, at < 0}, {"room", api.ErrFull, len(tables) <= 3}}, p
	}
	if at < 0 {
		return []claim{{"table", api.ErrTable, false}}, p
	}
	t := tables[at]
	p.Table, p.Time, p.Timed, p.Level = t, q.Time, q.Timed, q.Level
	if q.Level == 0 {
		p.Level = level
	}
	l := slowParts(q, t, &p)
	return append(l, claim{"level", api.ErrArg, p.Level == 1 || p.Level == 2 || p.Level == 3}), p
}

func slowParts(q api.Statement, t api.Table, p *check.Plan) []claim {
	columns := map[string]int{}
	var names []string
	for _, c := range t.Columns {
		columns[c.Name] = c.Kind
		names = append(names, c.Name)
	}
	inTable := func(a, b string) int { return slices.Index(names, a) - slices.Index(names, b) }
	switch q.Kind {
	case api.DoInsert:
		columns[t.Part], columns[t.Row] = api.Str, api.Int
		l := slowItems(q.Items, columns)
		values := map[string]api.Value{}
		for _, i := range q.Items {
			values[i.Column] = i.Value
			if i.Column != t.Part && i.Column != t.Row {
				p.Items = append(p.Items, i)
			}
		}
		_, hasPart := values[t.Part]
		_, hasRow := values[t.Row]
		p.Part, p.Row = values[t.Part].S, values[t.Row].N
		slices.SortFunc(p.Items, func(a, b api.Item) int { return inTable(a.Column, b.Column) })
		return []claim{l[0], l[1], {"part and row", api.ErrColumn, hasPart && hasRow}, l[2], {"empty", api.ErrArg, !hasPart || values[t.Part] != text("")}}
	case api.DoUpdate:
		p.Items = slices.Clone(q.Items)
		slices.SortFunc(p.Items, func(a, b api.Item) int { return inTable(a.Column, b.Column) })
		return append(slowItems(q.Items, columns), slowOneRow(q.Where, t, p)...)
	}
	p.Columns = slices.Clone(q.Columns)
	if len(q.Columns) == 0 {
		p.Columns = slices.Clone(names)
	}
	slices.SortFunc(p.Columns, inTable)
	p.Columns = slices.Compact(p.Columns)
	known := !slices.ContainsFunc(q.Columns, func(name string) bool { return columns[name] == 0 })
	l := []claim{{"columns", api.ErrColumn, known}}
	if q.Kind == api.DoDelete {
		p.Whole = len(q.Columns) == 0
		return append(l, slowOneRow(q.Where, t, p)...)
	}
	p.Limit = q.Limit
	return append(l, slowRows(q.Where, t, p)...)
}

func slowItems(items []api.Item, columns map[string]int) []claim {
	l := []claim{{"columns", api.ErrColumn, true}, {"twice", api.ErrExists, true}, {"kinds", api.ErrType, true}}
	seen := map[string]int{}
	for _, i := range items {
		seen[i.Column]++
		l[0].holds = l[0].holds && columns[i.Column] != 0
		l[1].holds = l[1].holds && seen[i.Column] == 1
		l[2].holds = l[2].holds && (columns[i.Column] == 0 || columns[i.Column] == i.Value.Kind)
	}
	return l
}

// slowWhere: what both kinds of WHERE want first, and the conditions as one text, by letters, each with a blank behind it.
func slowWhere(where []api.Cond, t api.Table) ([]claim, string) {
	l := []claim{{"conditions", api.ErrColumn, true}, {"condition kinds", api.ErrType, true}}
	var form []string
	for _, x := range where {
		switch x.Column {
		case t.Part:
			l[1].holds = l[1].holds && x.Value.Kind == api.Str
			form = append(form, "part"+x.Op+" ")
		case t.Row:
			l[1].holds = l[1].holds && x.Value.Kind == api.Int
			form = append(form, "row"+x.Op+" ")
		default:
			l[0].holds = false
		}
	}
	slices.Sort(form)
	return l, strings.Join(form, "")
}

func slowPart(where []api.Cond, t api.Table) string {
	at := slices.IndexFunc(where, func(x api.Cond) bool { return x.Column == t.Part })
	if at < 0 {
		return ""
	}
	return where[at].Value.S
}

func slowNotEmpty(where []api.Cond, t api.Table) claim {
	isEmpty := func(x api.Cond) bool { return x.Column == t.Part && x.Value == text("") }
	return claim{"empty", api.ErrArg, !slices.ContainsFunc(where, isEmpty)}
}

func slowOneRow(where []api.Cond, t api.Table, p *check.Plan) []claim {
	l, form := slowWhere(where, t)
	p.Part = slowPart(where, t)
	for _, x := range where {
		if x.Column == t.Row {
			p.Row = x.Value.N
		}
	}
	return append(l, claim{"one row", api.ErrArg, form == "part= row= "}, slowNotEmpty(where, t))
}

func slowRows(where []api.Cond, t api.Table, p *check.Plan) []claim {
	l, form := slowWhere(where, t)
	p.Part = slowPart(where, t)
	p.Low, p.High = slowLow(where, t), slowHigh(where, t)
	if p.High == 0 && slices.Contains(where, cond(t.Row, "<", number(math.MinInt))) {
		p.Low = 1
	}
	forms := []string{"part= ", "part= row= ", "part= row>= ", "part= row< ", "part= row< row>= "}
	return append(l, claim{"rows", api.ErrArg, slices.Contains(forms, form)}, slowNotEmpty(where, t))
}

func slowLow(where []api.Cond, t api.Table) int {
	for _, x := range where {
		if x.Column == t.Row && x.Op != "<" {
			return x.Value.N
		}
	}
	return -9223372036854775808
}

func slowHigh(where []api.Cond, t api.Table) int {
	for _, x := range where {
		switch {
		case x.Column == t.Row && x.Op == "=":
			return x.Value.N
		case x.Column == t.Row && x.Op == "<" && x.Value.N == -9223372036854775808:
			return 0
		case x.Column == t.Row && x.Op == "<":
			return x.Value.N - 1
		}
	}
	return 9223372036854775807
}

// wantSlow: Check answers what slowCheck does, and the cells of a plan fit.
func wantSlow(t *testing.T, q api.Statement, tables []api.Table, level int) api.Errno {
	t.Helper()
	p, e, _ := slowCheck(q, tables, level)
	got, fault := check.Check(q, tables, level)
	if !alike(got, p) || fault != e {
		t.Fatalf("Check(%s %+v, %+v, %d): %+v %v, want %+v %v", syntax.Print(q), q, tables, level, got, fault, p, e)
	}
	if e == api.OK {
		wantFits(t, got, 1, 2)
	}
	return e
}

// lists: all lists of at most n of some things.
func lists[T any](n int, of []T, tell func(l []T)) {
	var longer func(l []T)
	longer = func(l []T) {
		tell(l)
		if len(l) < n {
			for _, x := range of {
				longer(append(slices.Clip(l), x))
			}
		}
	}
	longer(nil)
}

func someItems() []api.Item {
	return []api.Item{set("k", text("x")), set("k", text("")), set("k", number(1)), set("r", number(5)), set("r", text("x")),
		set("c", number(1)), set("a", text("y")), set("a", number(1)), set("b", text("x")), set("b", number(2)), set("z", number(1))}
}

// P20.1: INSERT of all lists of up to 4 items.
func TestAllInserts(t *testing.T) {
	told := map[api.Errno]int{}
	lists(4, someItems(), func(l []api.Item) {
		for _, level := range []int{api.Quorum, 0} {
			told[wantSlow(t, api.Statement{Kind: api.DoInsert, Table: "t", Items: l}, someTables(), level)]++
		}
	})
	for _, e := range []api.Errno{api.OK, api.ErrSyntax, api.ErrColumn, api.ErrExists, api.ErrType, api.ErrArg} {
		if told[e] == 0 {
			t.Errorf("none is %v", e)
		}
	}
}

func someConds() []api.Cond {
	var l []api.Cond
	for _, column := range []string{"k", "r", "a", "z"} {
		for _, op := range []string{"=", ">=", "<"} {
			for _, v := range []api.Value{text("x"), text(""), number(5), number(math.MinInt)} {
				l = append(l, cond(column, op, v))
			}
		}
	}
	return l
}

func fewConds() []api.Cond {
	return []api.Cond{cond("k", "=", text("x")), cond("k", "=", text("")), cond("k", "<", text("x")), cond("k", "=", number(1)), cond("r", "=", number(5)), cond("r", ">=", number(5)), cond("r", "<", number(5)),
		cond("r", "<", number(6)), cond("r", "<", number(math.MinInt)), cond("r", ">=", number(math.MaxInt)), cond("r", ">=", text("")), cond("r", "=", text("x")), cond("b", "=", number(5))}
}

// P20.1: UPDATE, DELETE and SELECT with all WHEREs of up to 2 conditions of many, and up to 4 of fewer.
func TestAllWheres(t *testing.T) {
	told := map[api.Errno]int{}
	ask := func(l []api.Cond) {
		for _, q := range []api.Statement{
			{Kind: api.DoUpdate, Table: "t", Items: []api.Item{set("b", number(1))}, Where: l},
			{Kind: api.DoDelete, Table: "t", Where: l},
			{Kind: api.DoSelect, Table: "t", Where: l, Limit: -1},
		} {
			for _, level := range []int{api.All, 4} {
				told[wantSlow(t, q, someTables(), level)]++
			}
		}
	}
	lists(2, someConds(), ask)
	lists(3, fewConds(), ask)
	lists(5, []api.Cond{cond("k", "=", text("x")), cond("k", ">=", text("x")), cond("r", "=", number(5)), cond("r", ">=", number(-5)), cond("r", "<", number(7)), cond("r", "<", number(math.MinInt))}, ask)
	for _, e := range []api.Errno{api.OK, api.ErrSyntax, api.ErrColumn, api.ErrType, api.ErrArg} {
		if told[e] == 0 {
			t.Errorf("none is %v", e)
		}
	}
}

func someWheres() [][]api.Cond {
	return [][]api.Cond{oneRow(), {oneRow()[1], oneRow()[0]}, oneRow()[:1], oneRow()[1:], {cond("k", "=", text("")), cond("r", "=", number(5))},
		{cond("k", "=", number(1)), cond("r", "=", number(5))}, {cond("k", "=", text("x")), cond("r", "<", number(5))}, {cond("b", "=", number(1))}, append(oneRow(), cond("z", "<", text(""))),
		{cond("k", "=", number(1))}, {cond("r", "=", text("")), cond("z", "=", number(1)), cond("k", "=", text("x"))}, {cond("k", "=", text("")), cond("r", ">=", number(1))},
		{cond("k", "=", text("")), cond("r", "=", text("x"))}, {cond("k", "=", text("")), cond("r", "=", number(1)), cond("a", "=", number(1))}}
}

// P20.1: UPDATE of all lists of up to 3 items, DELETE and SELECT of all lists of up to 4 columns, each with some WHEREs.
func TestAllLists(t *testing.T) {
	for _, where := range someWheres() {
		for _, level := range []int{api.One, -1} {
			lists(3, someItems(), func(l []api.Item) {
				wantSlow(t, api.Statement{Kind: api.DoUpdate, Table: "t", Items: l, Where: where}, someTables(), level)
			})
			lists(4, []string{"c", "a", "b", "k", "r", "z"}, func(l []string) {
				wantSlow(t, api.Statement{Kind: api.DoDelete, Table: "t", Columns: l, Where: where}, someTables(), level)
				wantSlow(t, api.Statement{Kind: api.DoSelect, Table: "t", Columns: l, Where: where, Limit: 1}, someTables(), level)
			})
		}
	}
}

// P20.1: two errors in one statement: of each two that may stand together the one that the chapter names first is told.
func TestTwoErrors(t *testing.T) {
	met := map[string]int{}
	ask := func(q api.Statement, level int) {
		_, e, claims := slowCheck(q, someTables(), level)
		var broken []string
		for _, c := range claims {
			if !c.holds {
				broken = append(broken, c.name)
			}
		}
		if _, got := check.Check(q, someTables(), level); got != e {
			t.Fatalf("Check(%s, level %d): %v, want %v of %v", syntax.Print(q), level, got, e, broken)
		}
		if len(broken) == 2 {
			met[[]string{"", "", "insert", "update", "delete", "select"}[q.Kind]+": "+strings.Join(broken, ", ")]++
		}
	}
	for _, level := range []int{api.One, 0} {
		lists(4, someItems(), func(l []api.Item) {
			ask(api.Statement{Kind: api.DoInsert, Table: "t", Items: l}, level)
		})
		for _, where := range someWheres() {
			lists(3, someItems(), func(l []api.Item) {
				ask(api.Statement{Kind: api.DoUpdate, Table: "t", Items: l, Where: where}, level)
			})
		}
		lists(3, fewConds(), func(l []api.Cond) {
			ask(api.Statement{Kind: api.DoDelete, Table: "t", Where: l}, level)
			ask(api.Statement{Kind: api.DoSelect, Table: "t", Columns: []string{"z"}, Where: l}, level)
			ask(api.Statement{Kind: api.DoSelect, Table: "t", Columns: []string{"a"}, Where: l}, level)
		})
	}
	where := []string{"conditions", "condition kinds", "one row", "empty", "level"}
	rows := []string{"columns", "conditions", "condition kinds", "rows", "empty", "level"}
	for kind, names := range map[string][]string{
		"insert": {"columns", "twice", "part and row", "kinds", "empty", "level"},
		"update": append([]string{"columns", "twice", "kinds"}, where...),
		"delete": where,
		"select": rows,
	} {
		for i := range names {
			for _, second := range names[i+1:] {
				if pair := kind + ": " + names[i] + ", " + second; met[pair] == 0 {
					t.Errorf("%s: never by themselves", pair)
				}
			}
		}
	}
}
