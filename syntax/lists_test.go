package syntax_test

import (
	"strconv"
	"strings"
	"testing"

	"skerry/api"
)

// named: n names, which begin with a letter of theirs.
func named(letter string, n int) []string {
	var l []string
	for i := range n {
		l = append(l, letter+strconv.Itoa(i))
	}
	return l
}

// created: the text of a CREATE with these columns, each of which has its kind and a comma behind it.
func created(columns ...string) string {
	return "CREATE TABLE t (k TEXT, r INT, " + strings.Join(columns, "") + "PRIMARY KEY (k, r))"
}

// P19.1: CREATE with 1 column behind the first two, with MaxCols, of each kind; with none, and with one more.
func TestCreateColumns(t *testing.T) {
	var columns []api.Column
	var texts []string
	wantWrong(t, "CREATE TABLE t (k TEXT, r INT, ^PRIMARY KEY (k, r))")
	wantWrong(t, "CREATE TABLE t (k TEXT, r INT^)")
	wantWrong(t, "CREATE TABLE t (k TEXT, r INT ^PRIMARY KEY (k, r))")
	wantWrong(t, "CREATE TABLE t (k TEXT, ^PRIMARY KEY (k, r))")
	wantWrong(t, "CREATE TABLE t (^PRIMARY KEY (k, r))")
	wantWrong(t, "CREATE TABLE t (^)")
	for i, name := range named("c", 2*api.MaxCols) {
		kind := []string{"INT", "TEXT"}[i%3%2]
		if i >= api.MaxCols {
			wantWrong(t, created(append(texts, "^"+name+" "+kind+", ")...))
			wantWrong(t, created(append(texts[:api.MaxCols:api.MaxCols], "^"+name+" = ")...))
			continue
		}
		columns = append(columns, api.Column{Name: name, Kind: []int{api.Int, api.Str}[i%3%2]})
		texts = append(texts, name+" "+kind+", ")
		wantParse(t, created(texts...), api.Statement{Kind: api.DoCreate, Table: "t", Schema: api.Table{Name: "t", Part: "k", Row: "r", Columns: columns}})
		wantWrong(t, strings.Replace(created(texts...), ", PRIMARY", " ^PRIMARY", 1))
		wantWrong(t, strings.Replace(created(texts...), ", PRIMARY KEY (k, r))", "^)", 1))
		wantWrong(t, strings.Replace(created(texts...), "PRIMARY KEY (k, r))", "^)", 1))
		wantWrong(t, strings.Replace(created(texts...), "PRIMARY", "^, PRIMARY", 1))
		wantWrong(t, strings.Replace(created(texts...), "PRIMARY KEY", "PRIMARY ^(", 1))
		wantWrong(t, strings.Replace(created(texts...), "PRIMARY KEY", "^KEY", 1))
		wantWrong(t, strings.Replace(created(texts...), ", "+name+" ", ", "+name+"^, ", 1))
		wantWrong(t, strings.Replace(created(texts...), ", "+name+" "+kind, ", "+name+" ^FROM", 1))
		wantWrong(t, strings.Replace(created(texts...), ", "+name+" "+kind, ", "+name+" "+kind+" ^"+kind, 1))
	}
	if len(texts) != 6 {
		t.Errorf("%d columns", len(texts))
	}
	wantWrong(t, created("a INT, ", "b INT, ", "c INT, ", "d INT, ", "e INT, ", "f INT, ", "^'x', "))
	wantWrong(t, created("a INT, ", "b INT, ", "c INT, ", "d INT, ", "e INT, ", "f INT, ", "^, "))
}

// P19.1: the first column is a TEXT, the second one an INT.
func TestCreateFirstColumns(t *testing.T) {
	wantWrong(t, "CREATE TABLE t (k ^INT, r INT, a INT, PRIMARY KEY (k, r))")
	wantWrong(t, "CREATE TABLE t (k TEXT, r ^TEXT, a INT, PRIMARY KEY (k, r))")
	wantWrong(t, "CREATE TABLE t (k^, r INT, a INT, PRIMARY KEY (k, r))")
	wantWrong(t, "CREATE TABLE t (k TEXT, r^, a INT, PRIMARY KEY (k, r))")
	wantWrong(t, "CREATE TABLE t (k TEXT ^r INT, a INT, PRIMARY KEY (k, r))")
	wantWrong(t, "CREATE TABLE t (k TEXT, r INT ^a INT, PRIMARY KEY (k, r))")
	wantWrong(t, "CREATE TABLE t ^k TEXT, r INT, a INT, PRIMARY KEY (k, r)")
	wantWrong(t, "CREATE ^t (k TEXT, r INT, a INT, PRIMARY KEY (k, r))")
	wantWrong(t, "CREATE TABLE ^(k TEXT, r INT, a INT, PRIMARY KEY (k, r))")
	wantWrong(t, "CREATE TABLE ^'t' (k TEXT, r INT, a INT, PRIMARY KEY (k, r))")
	wantWrong(t, "CREATE TABLE t (k TEXT ^PRIMARY KEY, r INT, a INT, PRIMARY KEY (k, r))")
}

// P19.1: the key's names are the first two, in their order; else the one is wrong that is not.
func TestCreateKey(t *testing.T) {
	ahead := "CREATE TABLE t (k TEXT, r INT, a INT, b TEXT, PRIMARY KEY "
	for _, wrong := range []string{"(^r, k))", "(^r, r))", "(k, ^k))", "(^a, r))", "(k, ^a))", "(^b, a))", "(^t, r))", "(k^))", "(^))", "(^, r))", "(k, ^))", "(k ^r))", "(k, r^, a))", "(k, r ^a))", "^k, r)", "(k, r)^, c INT)", "(k, r)^", "(k, r^",
		"(^'k', r))", "(k, ^'r'))", "(^kk, r))", "(k, ^rr))", "(^KEY, r))", "(k, ^1))", "(^k_, r))", "(^(k), r))"} {
		wantWrong(t, ahead+wrong)
	}
	want := api.Statement{Kind: api.DoCreate, Table: "t", Schema: api.Table{Name: "t", Part: "part", Row: "row", Columns: []api.Column{{Name: "a", Kind: api.Int}}}}
	wantParse(t, "CREATE TABLE t (Part TEXT, roW INT, a INT, PRIMARY KEY (PART, Row))", want)
	wantWrong(t, "CREATE TABLE t (part TEXT, row INT, a INT, PRIMARY KEY (^par, row))")
	wantWrong(t, "CREATE TABLE t (part TEXT, row INT, a INT, PRIMARY KEY (part, ^rows))")
	// Names that are alike are no matter of the text.
	wantParse(t, "CREATE TABLE t (t TEXT, t INT, t INT, t TEXT, PRIMARY KEY (t, t))", api.Statement{Kind: api.DoCreate, Table: "t",
		Schema: api.Table{Name: "t", Part: "t", Row: "t", Columns: []api.Column{{Name: "t", Kind: api.Int}, {Name: "t", Kind: api.Str}}}})
}

func literals(n int) []string {
	var l []string
	for i := range n {
		l = append(l, []string{strconv.Itoa(i), "'x" + strconv.Itoa(i) + "'"}[i%2])
	}
	return l
}

// values: what literals are.
func values(n int) []api.Value {
	var l []api.Value
	for i := range n {
		l = append(l, []api.Value{number(i), text("x" + strconv.Itoa(i))}[i%2])
	}
	return l
}

func inserted(names, literals []string) string {
	return "INSERT INTO t (" + strings.Join(names, ", ") + ") VALUES (" + strings.Join(literals, ", ") + ")"
}

// P19.1: INSERT with as many literals as names, with fewer, more and none; the same with 10 names, and one more.
func TestInsertLists(t *testing.T) {
	for n := 1; n <= 10; n++ {
		var items []api.Item
		for i, v := range values(n) {
			items = append(items, set(named("c", n)[i], v))
		}
		wantParse(t, inserted(named("c", n), literals(n)), api.Statement{Kind: api.DoInsert, Table: "t", Items: items})
		for m := range 14 {
			s := strings.TrimSuffix(inserted(named("c", n), literals(m)), ")")
			switch {
			case m < n:
				wantWrong(t, s+"^)")
				wantWrong(t, s+"^) USING TIMESTAMP 1")
				if m > 0 {
					wantWrong(t, s+", ^)")
				}
			case m == n:
				wantWrong(t, s+"^, 5)")
				wantWrong(t, s+"^, )")
				wantWrong(t, s+"^,")
				wantWrong(t, s+"^")
				wantWrong(t, s+" ^5)")
				wantWrong(t, s+")^)")
			default:
				short := strings.TrimSuffix(inserted(named("c", n), literals(n)), ")")
				wantWrong(t, short+"^"+strings.TrimPrefix(s, short)+")")
			}
		}
	}
	for n := 11; n < 14; n++ {
		s := inserted(named("c", n), literals(n))
		wantWrong(t, strings.Replace(s, "c10", "^c10", 1))
		wantWrong(t, strings.Replace(inserted(named("c", n), nil), "c10", "^c10", 1))
	}
	ten := strings.Join(named("c", 10), ", ")
	wantWrong(t, "INSERT INTO t ("+ten+", ^) VALUES (1)")
	wantWrong(t, "INSERT INTO t ("+ten+" ^c10)")
	wantWrong(t, "INSERT INTO t ("+ten+", ^")
	wantWrong(t, "INSERT INTO t (^) VALUES ()")
	wantWrong(t, "INSERT INTO t (^) VALUES (1)")
	wantWrong(t, "INSERT INTO t ^VALUES (1)")
	wantWrong(t, "INSERT INTO t (^'a') VALUES (1)")
	wantWrong(t, "INSERT INTO t (a, ^1) VALUES (1, 1)")
	wantWrong(t, "INSERT INTO t (^*) VALUES (1)")
	wantWrong(t, "INSERT INTO t (a ^b) VALUES (1, 2)")
	wantWrong(t, "INSERT INTO t (a^=1)")
	wantWrong(t, "INSERT INTO t (a) VALUES (^a)")
	wantWrong(t, "INSERT INTO t (a) VALUES (^(1))")
	wantWrong(t, "INSERT INTO t (a) VALUES ^1")
	wantWrong(t, "INSERT INTO t (a) ^(1)")
	wantWrong(t, "INSERT ^t (a) VALUES (1)")
	wantParse(t, "INSERT INTO t (a, A, b) VALUES (1, '', -0)", api.Statement{Kind: api.DoInsert, Table: "t", Items: []api.Item{set("a", number(1)), set("a", text("")), set("b", number(0))}})
}

// P19.1: UPDATE with 1 to 10 items, and one more.
func TestUpdateItems(t *testing.T) {
	var items []api.Item
	var texts []string
	for i, name := range named("c", 14) {
		s := "UPDATE t SET " + strings.Join(texts, ", ")
		if i >= 10 {
			wantWrong(t, "UPDATE t SET "+strings.Join(append(texts[:10:10], "^"+name), ", ")+" = 1 "+oneRowText)
			wantWrong(t, s+", ^"+name)
			wantWrong(t, s+", ^"+name+" WHERE")
			wantWrong(t, s+", ^WHERE k = 'x'")
			wantWrong(t, s+", ^")
			continue
		}
		items = append(items, set(name, values(14)[i]))
		texts = append(texts, name+" = "+literals(14)[i])
		s = "UPDATE t SET " + strings.Join(texts, ", ")
		wantParse(t, s+" "+oneRowText, api.Statement{Kind: api.DoUpdate, Table: "t", Items: items, Where: oneRow()})
		wantWrong(t, s+", ^"+oneRowText)
		wantWrong(t, s+" ^c10 = 1")
		wantWrong(t, s+" ^AND c10 = 1")
	}
	wantWrong(t, "UPDATE t SET ^WHERE k = 'x'")
	wantWrong(t, "UPDATE t ^WHERE k = 'x'")
	wantWrong(t, "UPDATE t SET a ^1 WHERE k = 'x'")
	wantWrong(t, "UPDATE t SET a ^< 1 WHERE k = 'x'")
	wantWrong(t, "UPDATE t SET a ^>= 1 WHERE k = 'x'")
	wantWrong(t, "UPDATE t SET a = ^b WHERE k = 'x'")
	wantWrong(t, "UPDATE t SET a = ^WHERE k = 'x'")
	wantWrong(t, "UPDATE t SET ^(a = 1) WHERE k = 'x'")
	wantWrong(t, "UPDATE ^SET a = 1 WHERE k = 'x'")
	wantWrong(t, "UPDATE t SET a = ^= 1 WHERE k = 'x'")
}

// P19.1: DELETE and SELECT with 0 to 10 names, and one more.
func TestNames(t *testing.T) {
	for n := 1; n <= 10; n++ {
		names := strings.Join(named("c", n), ", ")
		wantParse(t, "DELETE "+names+" FROM t "+oneRowText, api.Statement{Kind: api.DoDelete, Table: "t", Columns: named("c", n), Where: oneRow()})
		wantParse(t, "SELECT "+names+" FROM t "+oneRowText, api.Statement{Kind: api.DoSelect, Table: "t", Columns: named("c", n), Where: oneRow(), Limit: -1})
		for _, word := range []string{"DELETE ", "SELECT "} {
			wantWrong(t, word+names+", ^FROM t "+oneRowText)
			wantWrong(t, word+names+" ^c10 FROM t "+oneRowText)
			wantWrong(t, word+names+" ^* FROM t "+oneRowText)
			wantWrong(t, word+names+", ^* FROM t "+oneRowText)
			wantWrong(t, word+"^, "+names+" FROM t "+oneRowText)
			wantWrong(t, word+"^("+names+") FROM t "+oneRowText)
			wantWrong(t, word+names+" ^t "+oneRowText)
		}
		wantWrong(t, "SELECT *^, "+names+" FROM t "+oneRowText)
		wantWrong(t, "SELECT * ^"+names+" FROM t "+oneRowText)
	}
	for n := 11; n < 14; n++ {
		for _, word := range []string{"DELETE ", "SELECT "} {
			wantWrong(t, word+strings.Replace(strings.Join(named("c", n), ", "), "c10", "^c10", 1)+" FROM t "+oneRowText)
		}
	}
	wantWrong(t, "DELETE ^* FROM t "+oneRowText)
	wantWrong(t, "SELECT ^FROM t "+oneRowText)
	wantWrong(t, "SELECT * ^* FROM t "+oneRowText)
	wantWrong(t, "SELECT * ^t "+oneRowText)
	wantWrong(t, "SELECT ^'a' FROM t "+oneRowText)
	wantWrong(t, "DELETE ^1 FROM t "+oneRowText)
	wantWrong(t, "DELETE FROM ^FROM t "+oneRowText)
	wantWrong(t, "DELETE FROM ^WHERE k = 'x'")
	wantWrong(t, "SELECT * FROM t^, u "+oneRowText)
	wantParse(t, "DELETE FROM t "+oneRowText, api.Statement{Kind: api.DoDelete, Table: "t", Where: oneRow()})
	wantParse(t, "SELECT * FROM t "+oneRowText, api.Statement{Kind: api.DoSelect, Table: "t", Where: oneRow(), Limit: -1})
}
