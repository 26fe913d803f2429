package syntax_test

import (
	"math"
	"strconv"
	"strings"
	"testing"

	"skerry/api"
)

// conds: n conditions, with each operator and each kind of literal, and their texts.
func conds(n int) ([]api.Cond, []string) {
	var l []api.Cond
	var texts []string
	for i := range n {
		op := []string{"=", ">=", "<"}[i%3]
		l = append(l, cond(named("c", n)[i], op, values(n)[i]))
		texts = append(texts, named("c", n)[i]+" "+op+" "+literals(n)[i])
	}
	return l, texts
}

// P19.1: WHERE with 1 to 4 conditions and 5, in each kind that has it; it must be there.
func TestWhere(t *testing.T) {
	for _, q := range []api.Statement{
		{Kind: api.DoUpdate, Table: "t", Items: []api.Item{set("a", number(1))}},
		{Kind: api.DoUpdate, Table: "t", Items: []api.Item{set("a", number(1))}, Timed: true, Level: api.All},
		{Kind: api.DoDelete, Table: "t"},
		{Kind: api.DoDelete, Table: "t", Columns: []string{"a"}, Timed: true, Time: 5, Level: api.One},
		{Kind: api.DoSelect, Table: "t", Limit: -1},
		{Kind: api.DoSelect, Table: "t", Columns: []string{"a"}, Limit: 5, Level: api.Quorum},
	} {
		ahead, behind, _ := strings.Cut(slowPrint(q), " WHERE ")
		behind = strings.TrimSpace(behind)
		wantWrong(t, ahead+" ^"+behind)
		wantWrong(t, ahead+" WHERE ^"+behind)
		for n := 1; n <= 7; n++ {
			var texts []string
			q.Where, texts = conds(n)
			where := ahead + " WHERE " + strings.Join(texts, " AND ")
			if n > 4 {
				wantWrong(t, strings.Replace(where, "c4", "^c4", 1)+" "+behind)
				continue
			}
			wantParse(t, where+" "+behind, q)
			wantWrong(t, where+" AND ^"+behind)
			wantWrong(t, where+" AND ^AND k = 1")
			wantWrong(t, where+" AND ^WHERE k = 1")
			wantWrong(t, where+" ^k = 1 "+behind)
			wantWrong(t, where+"^, k = 1 "+behind)
			wantWrong(t, where+" ^WHERE k = 1 "+behind)
			wantWrong(t, where+" ^OR k = 1 "+behind)
		}
	}
}

// P19.1: a condition is a name, one of three operators, and a literal.
func TestConditions(t *testing.T) {
	for _, op := range []string{"=", ">=", "<"} {
		for _, v := range []api.Value{number(0), number(-1), number(math.MinInt), number(math.MaxInt), text(""), text("x"), text("'%\n\x00\xff"), text(strings.Repeat("é", 32))} {
			q := api.Statement{Kind: api.DoSelect, Table: "t", Where: []api.Cond{cond("a", op, v)}, Limit: -1}
			wantParse(t, "SELECT * FROM t WHERE a"+op+slowLiteral(v), q)
			wantParse(t, "SELECT * FROM t WHERE a "+op+" "+slowLiteral(v), q)
		}
		wantWrong(t, "SELECT * FROM t WHERE a "+op+" ^b")
		wantWrong(t, "SELECT * FROM t WHERE a "+op+" ^"+op+" 1")
		wantWrong(t, "SELECT * FROM t WHERE ^"+op+" 1")
		wantWrong(t, "SELECT * FROM t WHERE a "+op+"^")
		wantWrong(t, "SELECT * FROM t WHERE ^1 "+op+" 1")
		wantWrong(t, "SELECT * FROM t WHERE ^'a' "+op+" 1")
		wantWrong(t, "SELECT * FROM t WHERE a "+op+" ^TEXT")
	}
	for _, no := range []string{"(", ")", ",", "*", "AND", "a", "1", "'='", "SET"} {
		wantWrong(t, "SELECT * FROM t WHERE a ^"+no+" 1")
	}
	wantWrong(t, "SELECT * FROM t WHERE a <^= 1")
	wantWrong(t, "SELECT * FROM t WHERE a =^< 1")
	wantWrong(t, "SELECT * FROM t WHERE a ^> 1")
	wantWrong(t, "SELECT * FROM t WHERE ^(a = 1)")
	wantParse(t, "SELECT * FROM t WHERE a = 1_000 AND a = -0 AND a = 007", api.Statement{Kind: api.DoSelect, Table: "t",
		Where: []api.Cond{cond("a", "=", number(1000)), cond("a", "=", number(0)), cond("a", "=", number(7))}, Limit: -1})
}

// P19.1: USING stands at its place, in three kinds, with an Int of any size.
func TestUsing(t *testing.T) {
	const ahead, behind = "UPDATE t ", " SET a = 1 WHERE k = 'x'"
	q := api.Statement{Kind: api.DoUpdate, Table: "t", Items: []api.Item{set("a", number(1))}, Where: []api.Cond{cond("k", "=", text("x"))}}
	wantParse(t, ahead+behind, q)
	q.Timed = true
	for _, n := range []int{0, 1, -1, 5, -1000000, 1000001, math.MaxInt, math.MinInt} {
		q.Time = n
		wantParse(t, ahead+"USING TIMESTAMP "+strconv.Itoa(n)+behind, q)
		insert := api.Statement{Kind: api.DoInsert, Table: "t", Items: q.Items, Timed: true, Time: n}
		wantParse(t, "INSERT INTO t (a) VALUES (1) USING TIMESTAMP "+strconv.Itoa(n), insert)
		insert.Level = api.One
		wantParse(t, "INSERT INTO t (a) VALUES (1) USING TIMESTAMP "+strconv.Itoa(n)+" CONSISTENCY ONE", insert)
		remove := api.Statement{Kind: api.DoDelete, Table: "t", Where: q.Where, Timed: true, Time: n}
		wantParse(t, "DELETE FROM t USING TIMESTAMP "+strconv.Itoa(n)+" WHERE k = 'x'", remove)
	}
	wantWrong(t, ahead+"USING ^5"+behind)
	wantWrong(t, ahead+"USING TIMESTAMP ^'5'"+behind)
	wantWrong(t, ahead+"USING TIMESTAMP ^''"+behind)
	wantWrong(t, ahead+"USING TIMESTAMP ^five"+behind)
	wantWrong(t, ahead+"USING TIMESTAMP ^= 5"+behind)
	wantWrong(t, ahead+"USING TIMESTAMP ^SET a = 1 WHERE k = 'x'")
	wantWrong(t, ahead+"USING ^SET a = 1 WHERE k = 'x'")
	wantWrong(t, ahead+"^TIMESTAMP 5"+behind)
	wantWrong(t, ahead+"USING TIMESTAMP 5 ^USING TIMESTAMP 5"+behind)
	wantWrong(t, ahead+"USING TIMESTAMP 5 ^5"+behind)
	wantWrong(t, ahead+"SET a = 1 ^USING TIMESTAMP 5 WHERE k = 'x'")
	wantWrong(t, ahead+"SET a = 1 WHERE k = 'x' ^USING TIMESTAMP 5")
	wantWrong(t, "UPDATE ^USING TIMESTAMP 5 t SET a = 1 WHERE k = 'x'")
	wantWrong(t, "INSERT INTO t ^USING TIMESTAMP 5 (a) VALUES (1)")
	wantWrong(t, "INSERT INTO t (a) ^USING TIMESTAMP 5 VALUES (1)")
	wantWrong(t, "INSERT INTO t (a) VALUES (1) CONSISTENCY ONE ^USING TIMESTAMP 5")
	wantWrong(t, "DELETE a ^USING TIMESTAMP 5 FROM t WHERE k = 'x'")
	wantWrong(t, "DELETE FROM t WHERE k = 'x' ^USING TIMESTAMP 5")
	wantWrong(t, "SELECT * FROM t ^USING TIMESTAMP 5 WHERE k = 'x'")
	wantWrong(t, "CREATE TABLE t ^USING TIMESTAMP 5 (k TEXT, r INT, a INT, PRIMARY KEY (k, r))")
}

// P19.1: LIMIT of 0 to 1000000; without one it is -1, and 0 in the other kinds.
func TestLimit(t *testing.T) {
	const ahead = "SELECT * FROM t WHERE k = 'x'"
	q := api.Statement{Kind: api.DoSelect, Table: "t", Where: []api.Cond{cond("k", "=", text("x"))}, Limit: -1}
	wantParse(t, ahead, q)
	for _, n := range []int{0, 1, 2, 10, 65536, 999999, 1000000} {
		q.Limit, q.Level = n, 0
		wantParse(t, ahead+" LIMIT "+strconv.Itoa(n), q)
		q.Level = api.One
		wantParse(t, ahead+" LIMIT "+strconv.Itoa(n)+" CONSISTENCY ONE", q)
	}
	q.Limit, q.Level = 0, 0
	wantParse(t, ahead+" LIMIT -0", q)
	for _, n := range []int{-1, -2, -1000000, 1000001, 1000002, 1 << 32, math.MinInt, math.MaxInt} {
		wantWrong(t, ahead+" LIMIT ^"+strconv.Itoa(n))
		wantWrong(t, ahead+" LIMIT ^"+strconv.Itoa(n)+" CONSISTENCY ONE")
	}
	wantWrong(t, ahead+" LIMIT ^'1'")
	wantWrong(t, ahead+" LIMIT ^''")
	wantWrong(t, ahead+" LIMIT ^a")
	wantWrong(t, ahead+" LIMIT ^= 1")
	wantWrong(t, ahead+" LIMIT ^ALL")
	wantWrong(t, ahead+" LIMIT ^(1)")
	wantWrong(t, ahead+" LIMIT^")
	wantWrong(t, ahead+" LIMIT 1 ^LIMIT 1")
	wantWrong(t, ahead+" LIMIT 1^, 2")
	wantWrong(t, ahead+" LIMIT 1 ^AND r = 1")
	wantWrong(t, "SELECT * FROM t ^LIMIT 1 WHERE k = 'x'")
	wantWrong(t, "SELECT * FROM t ^LIMIT 1")
	wantWrong(t, "SELECT ^LIMIT 1 * FROM t WHERE k = 'x'")
	wantWrong(t, "DELETE FROM t ^LIMIT 1 WHERE k = 'x'")
}

// P19.1: CONSISTENCY with each level, in letters of any size; with another token; and out of its place.
func TestConsistency(t *testing.T) {
	ends := map[int]string{api.DoInsert: "INSERT INTO t (a) VALUES (1)", api.DoUpdate: "UPDATE t SET a = 1 WHERE k = 'x'", api.DoDelete: "DELETE FROM t WHERE k = 'x'", api.DoSelect: "SELECT * FROM t WHERE k = 'x'"}
	for kind, ahead := range ends {
		q := api.Statement{Kind: kind, Table: "t"}
		if kind <= api.DoUpdate {
			q.Items = []api.Item{set("a", number(1))}
		}
		if kind >= api.DoUpdate {
			q.Where = []api.Cond{cond("k", "=", text("x"))}
		}
		if kind == api.DoSelect {
			q.Limit = -1
		}
		wantParse(t, ahead, q)
		for name, least := range map[string]int{"ONE": api.One, "QUORUM": api.Quorum, "ALL": api.All, "one": api.One, "Quorum": api.Quorum, "aLL": api.All} {
			q.Level = least
			wantParse(t, ahead+" CONSISTENCY "+name, q)
			wantParse(t, ahead+"\tconsistency\n"+name, q)
			wantWrong(t, ahead+" ^"+name)
			wantWrong(t, ahead+" CONSISTENCY "+name+" ^"+name)
			wantWrong(t, ahead+" CONSISTENCY "+name+" ^CONSISTENCY "+name)
			wantWrong(t, ahead+" CONSISTENCY "+name+" ^LIMIT 1")
			wantWrong(t, ahead+" CONSISTENCY ^= "+name)
			wantWrong(t, ahead+" CONSISTENCY ^'"+name+"'")
		}
		for _, other := range tokens() {
			if other != "ONE" && other != "QUORUM" && other != "ALL" {
				wantWrong(t, ahead+" CONSISTENCY ^"+other)
			}
		}
		for _, name := range []string{"two", "none", "any", "ones", "al", "quorums"} {
			wantWrong(t, ahead+" CONSISTENCY ^"+name)
		}
		wantWrong(t, ahead+" CONSISTENCY^")
	}
	wantWrong(t, "UPDATE t ^CONSISTENCY ONE SET a = 1 WHERE k = 'x'")
	wantWrong(t, "UPDATE t SET a = 1 ^CONSISTENCY ONE WHERE k = 'x'")
	wantWrong(t, "DELETE FROM t ^CONSISTENCY ONE WHERE k = 'x'")
	wantWrong(t, "SELECT * FROM t ^CONSISTENCY ONE WHERE k = 'x'")
	wantWrong(t, "INSERT INTO t (a) ^CONSISTENCY ONE VALUES (1)")
	wantWrong(t, "CREATE TABLE t (k TEXT, r INT, a INT, PRIMARY KEY (k, r)) ^CONSISTENCY ONE")
}
