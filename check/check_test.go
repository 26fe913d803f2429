package check_test

import (
	"math"
	"reflect"
	"testing"

	"skerry/api"
	"skerry/check"
	"skerry/schema"
	"skerry/syntax"
)

func number(n int) api.Value { return api.Value{Kind: api.Int, N: n} }

func text(s string) api.Value { return api.Value{Kind: api.Str, S: s} }

func set(column string, v api.Value) api.Item { return api.Item{Column: column, Value: v} }

func cond(column, op string, v api.Value) api.Cond {
	return api.Cond{Column: column, Op: op, Value: v}
}

// someTable: t(k, r, c INT, a TEXT, b INT), whose columns do not stand by their names.
func someTable() api.Table {
	return api.Table{Name: "t", Part: "k", Row: "r", Columns: []api.Column{{Name: "c", Kind: api.Int}, {Name: "a", Kind: api.Str}, {Name: "b", Kind: api.Int}}}
}

// other: a table whose names are those of someTable, with other meanings.
func other() api.Table {
	return api.Table{Name: "u", Part: "r", Row: "k", Columns: []api.Column{{Name: "a", Kind: api.Int}, {Name: "t", Kind: api.Str}}}
}

func someTables() []api.Table { return []api.Table{other(), someTable()} }

// parsed: the statement of a text.
func parsed(t *testing.T, s string) api.Statement {
	t.Helper()
	q, at, e := syntax.Parse(s)
	if e != api.OK {
		t.Fatalf("Parse(%q): %d %v", s, at, e)
	}
	return q
}

// alike: are two plans so, but for lists that are nil or empty?
func alike(a, b check.Plan) bool {
	return reflect.DeepEqual(tidy(a), tidy(b))
}

func tidy(p check.Plan) check.Plan {
	p.Table.Columns = append([]api.Column(nil), p.Table.Columns...)
	p.Items = append([]api.Item(nil), p.Items...)
	p.Columns = append([]string(nil), p.Columns...)
	return p
}

// wantAnswer: what Check answers of a statement, and it is what the chapter says.
func wantAnswer(t *testing.T, q api.Statement, tables []api.Table, level int, want check.Plan, fault api.Errno) {
	t.Helper()
	got, e := check.Check(q, tables, level)
	if !alike(got, want) || e != fault {
		t.Errorf("Check(%s %+v, level %d): %+v %v, want %+v %v", syntax.Print(q), q, level, got, e, want, fault)
	}
}

// wantPlan: a text's plan, over someTables with level ONE.
func wantPlan(t *testing.T, s string, want check.Plan) {
	t.Helper()
	wantAnswer(t, parsed(t, s), someTables(), api.One, want, api.OK)
}

// wantFault: a text that does not fit someTables.
func wantFault(t *testing.T, fault api.Errno, texts ...string) {
	t.Helper()
	for _, s := range texts {
		wantAnswer(t, parsed(t, s), someTables(), api.One, check.Plan{}, fault)
	}
}

// P20.1: the chapter's examples.
func TestExamples(t *testing.T) {
	tables := []api.Table{{Name: "t", Part: "k", Row: "r", Columns: []api.Column{{Name: "a", Kind: api.Int}}}}
	wantAnswer(t, parsed(t, "SELECT * FROM t WHERE k = 'x' AND r < 5"), tables, api.One, check.Plan{
		Kind: api.DoSelect, Table: tables[0], Part: "x", Columns: []string{"a"}, Low: math.MinInt, High: 4, Limit: -1, Level: api.One}, api.OK)
	wantAnswer(t, parsed(t, "UPDATE t SET a = 1 WHERE k = 'x'"), tables, api.One, check.Plan{}, api.ErrArg)
}

// P20.1: a plan of each kind, with each part that the kind names.
func TestPlans(t *testing.T) {
	x := someTable()
	wantPlan(t, "CREATE TABLE v (k TEXT, r INT, a TEXT, PRIMARY KEY (k, r))", check.Plan{
		Kind: api.DoCreate, Table: api.Table{Name: "v", Part: "k", Row: "r", Columns: []api.Column{{Name: "a", Kind: api.Str}}}})
	wantPlan(t, "INSERT INTO t (b, k, a, r) VALUES (7, 'x', 'y', -5) USING TIMESTAMP 9 CONSISTENCY ALL", check.Plan{
		Kind: api.DoInsert, Table: x, Part: "x", Row: -5, Items: []api.Item{set("a", text("y")), set("b", number(7))}, Time: 9, Timed: true, Level: api.All})
	wantPlan(t, "UPDATE t USING TIMESTAMP -9 SET b = 7, c = 8 WHERE r = 5 AND k = 'x' CONSISTENCY QUORUM", check.Plan{
		Kind: api.DoUpdate, Table: x, Part: "x", Row: 5, Items: []api.Item{set("c", number(8)), set("b", number(7))}, Time: -9, Timed: true, Level: api.Quorum})
	wantPlan(t, "DELETE b, c FROM t WHERE k = 'x' AND r = 5", check.Plan{
		Kind: api.DoDelete, Table: x, Part: "x", Row: 5, Columns: []string{"c", "b"}, Level: api.One})
	wantPlan(t, "DELETE FROM t USING TIMESTAMP 0 WHERE k = 'x' AND r = 5", check.Plan{
		Kind: api.DoDelete, Table: x, Part: "x", Row: 5, Columns: []string{"c", "a", "b"}, Whole: true, Timed: true, Level: api.One})
	wantPlan(t, "SELECT b, a FROM t WHERE k = 'x' AND r = 5 LIMIT 3 CONSISTENCY ALL", check.Plan{
		Kind: api.DoSelect, Table: x, Part: "x", Columns: []string{"a", "b"}, Low: 5, High: 5, Limit: 3, Level: api.All})
	wantPlan(t, "SELECT * FROM u WHERE r = 'x'", check.Plan{
		Kind: api.DoSelect, Table: other(), Part: "x", Columns: []string{"a", "t"}, Low: math.MinInt, High: math.MaxInt, Limit: -1, Level: api.One})
}

// P20.1: what is not good is ErrSyntax, whatever else is wrong.
func TestNotGood(t *testing.T) {
	for _, q := range []api.Statement{
		{},
		{Kind: 6, Table: "t"},
		{Kind: -1, Table: "t"},
		{Kind: api.DoCreate, Table: "v"},
		{Kind: api.DoCreate, Table: "v", Schema: api.Table{Name: "w", Part: "k", Row: "r", Columns: []api.Column{{Name: "a", Kind: api.Int}}}},
		{Kind: api.DoCreate, Table: "v", Schema: api.Table{Name: "v", Part: "k", Row: "k", Columns: []api.Column{{Name: "a", Kind: 3}}}},
		{Kind: api.DoInsert, Table: "t"},
		{Kind: api.DoInsert, Table: "missing", Items: []api.Item{set("", number(1))}},
		{Kind: api.DoInsert, Table: "T", Items: []api.Item{set("k", text("x")), set("r", number(1))}},
		{Kind: api.DoInsert, Table: "t", Items: []api.Item{set("k", text("x")), set("r", number(1))}, Level: 4},
		{Kind: api.DoInsert, Table: "t", Items: []api.Item{set("k", text("x")), set("r", number(1)), set("a", api.Value{})}},
		{Kind: api.DoInsert, Table: "t", Items: []api.Item{set("k", text("x")), set("r", number(1))}, Time: 5},
		{Kind: api.DoUpdate, Table: "t", Items: []api.Item{set("b", number(1))}},
		{Kind: api.DoUpdate, Table: "t", Items: []api.Item{set("b", number(1))}, Where: []api.Cond{cond("k", "=", text("x")), cond("r", ">", number(1))}},
		{Kind: api.DoDelete, Table: "t"},
		{Kind: api.DoDelete, Table: "t", Columns: []string{"select"}, Where: []api.Cond{cond("z", "=", text("x"))}},
		{Kind: api.DoSelect, Table: "t", Where: []api.Cond{cond("k", "=", text("x"))}, Limit: -2},
		{Kind: api.DoSelect, Table: "t", Where: []api.Cond{cond("k", "=", text("x"))}, Limit: 1000001},
		{Kind: api.DoSelect, Table: "t", Where: []api.Cond{cond("k", "=", text("x"))}, Timed: true},
		{Kind: api.DoSelect, Table: "t", Where: []api.Cond{cond("k", "=", text("x")), cond("r", "=", api.Value{Kind: api.Int, S: "x"})}},
	} {
		for _, tables := range [][]api.Table{nil, someTables(), full(api.MaxTables)} {
			for _, level := range []int{api.One, 0, 9} {
				wantAnswer(t, q, tables, level, check.Plan{}, api.ErrSyntax)
			}
		}
	}
}

// full: n tables that may be.
func full(n int) []api.Table {
	var l []api.Table
	for _, name := range []string{"t", "u", "v", "w", "x", "y"}[:n] {
		x := someTable()
		x.Name = name
		l = append(l, x)
	}
	return l
}

// P20.1: CREATE of a table that may not be is schema's error, ahead of those that the tables make.
func TestCreateOfNone(t *testing.T) {
	for _, s := range []string{
		"CREATE TABLE new (k TEXT, k INT, a INT, PRIMARY KEY (k, k))",
		"CREATE TABLE new (k TEXT, r INT, k INT, PRIMARY KEY (k, r))",
		"CREATE TABLE new (k TEXT, r INT, r INT, PRIMARY KEY (k, r))",
		"CREATE TABLE new (k TEXT, r INT, a INT, a INT, PRIMARY KEY (k, r))",
		"CREATE TABLE new (k TEXT, r INT, a INT, b INT, a TEXT, PRIMARY KEY (k, r))",
	} {
		q := parsed(t, s)
		want := schema.Table(q.Schema)
		if want != api.ErrExists {
			t.Fatalf("%s: %v", s, want)
		}
		for n := range api.MaxTables + 2 {
			wantAnswer(t, q, full(n), api.One, check.Plan{}, want)
		}
	}
}

// P20.1: CREATE of a table that is there, wherever it stands, with MaxTables, one fewer, and one more.
func TestCreateAmongOthers(t *testing.T) {
	for n := range api.MaxTables + 2 {
		tables := full(n)
		for _, name := range []string{"t", "u", "v", "w", "x", "new", "k"} {
			q := parsed(t, "CREATE TABLE "+name+" (t TEXT, u INT, a INT, PRIMARY KEY (t, u))")
			_, there := schema.Find(tables, name)
			for _, level := range []int{api.One, api.All, 0, 4, -1} {
				switch {
				case there:
					wantAnswer(t, q, tables, level, check.Plan{}, api.ErrExists)
				case n >= api.MaxTables:
					wantAnswer(t, q, tables, level, check.Plan{}, api.ErrFull)
				default:
					wantAnswer(t, q, tables, level, check.Plan{Kind: api.DoCreate, Table: q.Schema}, api.OK)
				}
			}
		}
	}
}

// P20.1: a table that is not there, ahead of whatever else is wrong.
func TestNoTable(t *testing.T) {
	for _, s := range []string{
		"INSERT INTO z (k, r) VALUES ('x', 1)", "INSERT INTO z (z, z) VALUES ('x', '')",
		"UPDATE z SET a = 'x' WHERE k = 'x' AND r = 1", "UPDATE z SET z = 1, z = 2 WHERE z < 5",
		"DELETE FROM z WHERE k = 'x' AND r = 1", "DELETE z FROM z WHERE z < 5",
		"SELECT * FROM z WHERE k = 'x'", "SELECT z FROM z WHERE z < 5",
	} {
		for _, tables := range [][]api.Table{nil, {}, someTables(), {{Name: "T"}, {Name: "zz"}, {Name: ""}}, full(api.MaxTables)} {
			wantAnswer(t, parsed(t, s), tables, 0, check.Plan{}, api.ErrTable)
			wantAnswer(t, parsed(t, s), tables, api.One, check.Plan{}, api.ErrTable)
		}
	}
}

// P20.1: of several tables the one of that name.
func TestEachTable(t *testing.T) {
	tables := full(api.MaxTables)
	for i, x := range tables {
		tables[i].Columns[0].Name = "c" + x.Name
	}
	for _, x := range tables {
		q := parsed(t, "SELECT * FROM "+x.Name+" WHERE k = 'x'")
		wantAnswer(t, q, tables, api.All, check.Plan{Kind: api.DoSelect, Table: x, Part: "x", Columns: []string{"c" + x.Name, "a", "b"}, Low: math.MinInt, High: math.MaxInt, Limit: -1, Level: api.All}, api.OK)
	}
}

// P20.1: the level is the statement's; the one that is handed in, if it says none; ErrArg, if that is none.
func TestLevels(t *testing.T) {
	for _, s := range []string{
		"INSERT INTO t (k, r) VALUES ('x', 1)",
		"UPDATE t SET a = 'x' WHERE k = 'x' AND r = 1",
		"DELETE FROM t WHERE k = 'x' AND r = 1",
		"SELECT * FROM t WHERE k = 'x'",
	} {
		for own, name := range []string{"", " CONSISTENCY ONE", " CONSISTENCY QUORUM", " CONSISTENCY ALL"} {
			q := parsed(t, s+name)
			for _, level := range []int{api.One, api.Quorum, api.All, 0, 4, 5, -1, math.MinInt, math.MaxInt} {
				p, e := check.Check(q, someTables(), level)
				want := own
				if own == 0 {
					want = level
				}
				switch {
				case own == 0 && (level < api.One || level > api.All):
					wantAnswer(t, q, someTables(), level, check.Plan{}, api.ErrArg)
				case p.Level != want || p.Kind != q.Kind || e != api.OK:
					t.Errorf("%s%s, level %d: %+v %v", s, name, level, p, e)
				}
			}
		}
	}
}

// P20.1: a level that is none is the last error: any other one is ahead of it.
func TestNoLevelIsLast(t *testing.T) {
	faults := map[string]api.Errno{
		"INSERT INTO t (k, r, z) VALUES ('x', 1, 1)":                api.ErrColumn,
		"INSERT INTO t (k, r, k) VALUES ('x', 1, 'x')":              api.ErrExists,
		"INSERT INTO t (k) VALUES ('x')":                            api.ErrColumn,
		"INSERT INTO t (k, r, a) VALUES ('x', 1, 1)":                api.ErrType,
		"UPDATE t SET k = 'x' WHERE k = 'x' AND r = 1":              api.ErrColumn,
		"UPDATE t SET b = 1, b = 1 WHERE k = 'x' AND r = 1":         api.ErrExists,
		"UPDATE t SET b = 'x' WHERE k = 'x' AND r = 1":              api.ErrType,
		"UPDATE t SET b = 1 WHERE k = 'x' AND b = 1":                api.ErrColumn,
		"UPDATE t SET b = 1 WHERE k = 'x' AND r = '1'":              api.ErrType,
		"DELETE k FROM t WHERE k = 'x' AND r = 1":                   api.ErrColumn,
		"DELETE FROM t WHERE k = 'x' AND b = 1":                     api.ErrColumn,
		"DELETE FROM t WHERE k = 1 AND r = 1":                       api.ErrType,
		"SELECT r FROM t WHERE k = 'x'":                             api.ErrColumn,
		"SELECT * FROM t WHERE k = 'x' AND z = 1":                   api.ErrColumn,
		"SELECT * FROM t WHERE k = 'x' AND r = ''":                  api.ErrType,
		"SELECT * FROM z WHERE k = 'x'":                             api.ErrTable,
		"CREATE TABLE t (k TEXT, r INT, a INT, PRIMARY KEY (k, r))": api.ErrExists,
	}
	for s, fault := range faults {
		for _, level := range []int{api.One, 0, 7} {
			wantAnswer(t, parsed(t, s), someTables(), level, check.Plan{}, fault)
		}
	}
}
