package syntax_test

import (
	"strings"
	"testing"

	"skerry/api"
	"skerry/lexer"
)

// theWords: those of the language.
func theWords() []string {
	return strings.Fields("CREATE TABLE PRIMARY KEY INSERT INTO VALUES USING TIMESTAMP CONSISTENCY UPDATE SET WHERE AND DELETE FROM SELECT LIMIT ONE QUORUM ALL TEXT INT")
}

// tokens: each word and op, names, and literals.
func tokens() []string {
	return append(theWords(), "=", ">=", "<", "(", ")", ",", "*", "a", "k", "r", "t", "7", "-1", "1000001", "'x'", "''")
}

// cut: the texts of a text's tokens.
func cut(s string) []string {
	var parts []string
	l, _ := slowTokens(s)
	for _, t := range l[:len(l)-1] {
		parts = append(parts, s[t.At:t.End])
	}
	return parts
}

// wantSlow: Parse, as lexer's Lex and the grammar tell it.
func wantSlow(t *testing.T, s string) api.Errno {
	t.Helper()
	var want api.Statement
	l, at, e := lexer.Lex(s)
	if e == api.OK {
		want, at, e = slowParse(l)
	}
	if e == api.OK {
		wantParse(t, s, want)
	} else {
		wantNone(t, s, at, e)
	}
	return e
}

// P19.1: texts without a token, and with a first one that opens no statement.
func TestOpensNone(t *testing.T) {
	for _, s := range []string{"", " ", " \t\r\n", "-- a note", "-- a note\n", "--", "\n-- SELECT * FROM t WHERE k = 'x'\n \t-- \n"} {
		wantNone(t, s, len(s), api.ErrSyntax)
		wantNone(t, s+"\n;", len(s)+1, api.ErrSyntax)
	}
	opening := map[string]int{"CREATE": 1, "INSERT": 2, "UPDATE": 3, "DELETE": 4, "SELECT": 5}
	for _, s := range tokens() {
		if opening[s] > 0 {
			wantNone(t, s, len(s), api.ErrSyntax)
			wantNone(t, s+" -- ", len(s)+4, api.ErrSyntax)
			continue
		}
		for _, behind := range []string{"", " ", " * FROM t WHERE k = 'x'", " SELECT * FROM t WHERE k = 'x'"} {
			wantNone(t, s+behind, 0, api.ErrSyntax)
			wantNone(t, " -- \n"+s+behind, 5, api.ErrSyntax)
		}
	}
	wantWrong(t, "^'SELECT' * FROM t WHERE k = 'x'")
	wantWrong(t, "^selects * FROM t WHERE k = 'x'")
	wantWrong(t, "^insertinto t (a) VALUES (1)")
}

// P19.1: a text that ends behind each of its tokens is wrong at its end, blanks and notes counting; if it is none already.
func TestEndsTooEarly(t *testing.T) {
	ended := 0
	for _, q := range samples() {
		s := slowPrint(q)
		l, _ := slowTokens(s)
		for _, token := range l[:len(l)-1] {
			ahead := s[:token.End]
			if wantSlow(t, ahead) == api.OK {
				ended++
				continue
			}
			for _, behind := range []string{"", " ", "\n\n", " -- a note", "-- a\n"} {
				wantNone(t, ahead+behind, len(ahead+behind), api.ErrSyntax)
			}
		}
	}
	if ended < len(samples()) {
		t.Errorf("%d texts were whole: too few", ended)
	}
	wantWrong(t, "SELECT a^")
	wantWrong(t, "SELECT a  ^")
	wantWrong(t, "SELECT * FROM t^")
	wantWrong(t, "CREATE TABLE t (k TEXT, r INT, a INT, PRIMARY KEY (k, r)^")
	wantWrong(t, "UPDATE t SET a = 1 -- WHERE k = 'x'^")
}

// P19.1: behind the end no token may be, whatever it is; but what goes on with the statement.
func TestTooManyTokens(t *testing.T) {
	for _, q := range samples() {
		s := slowPrint(q)
		for _, more := range tokens() {
			want := len(s) + 1
			if goesOn(q, more) {
				want += len(more)
			}
			wantNone(t, s+" "+more, want, api.ErrSyntax)
			wantNone(t, s+" "+more+" ?", len(s+more)+2, api.ErrSyntax)
		}
	}
	wantWrong(t, "SELECT * FROM t WHERE k = 'x' ^SELECT * FROM t WHERE k = 'x'")
	wantWrong(t, "CREATE TABLE t (k TEXT, r INT, a INT, PRIMARY KEY (k, r)) ^CONSISTENCY ONE")
	wantWrong(t, "CREATE TABLE t (k TEXT, r INT, a INT, PRIMARY KEY (k, r)) ^USING TIMESTAMP 1")
	wantWrong(t, "CREATE TABLE t (k TEXT, r INT, a INT, PRIMARY KEY (k, r))^)")
	wantWrong(t, "INSERT INTO t (a) VALUES (1) ^WHERE k = 'x'")
	wantWrong(t, "INSERT INTO t (a) VALUES (1)^, (2)")
	wantWrong(t, "INSERT INTO t (a) VALUES (1) ^LIMIT 1")
	wantWrong(t, "UPDATE t SET a = 1 WHERE k = 'x' ^LIMIT 1")
	wantWrong(t, "DELETE FROM t WHERE k = 'x' ^LIMIT 1")
	wantWrong(t, "SELECT * FROM t WHERE k = 'x' ^USING TIMESTAMP 1")
}

// goesOn: is there a statement that goes on with a token behind this one?
func goesOn(q api.Statement, token string) bool {
	switch token {
	case "CONSISTENCY":
		return q.Kind != api.DoCreate && q.Level == 0
	case "USING":
		return q.Kind == api.DoInsert && !q.Timed && q.Level == 0
	case "AND":
		return q.Kind > api.DoInsert && q.Limit <= 0 && q.Level == 0
	case "LIMIT":
		return q.Kind == api.DoSelect && q.Limit < 0 && q.Level == 0
	}
	return false
}

// P19.1: in each place of a statement each other token, for the one that is there, and ahead of it; that one left out; and it and the next one changed about.
func TestTokensOutOfPlace(t *testing.T) {
	all := tokens()
	whole := 0
	for _, q := range samples() {
		parts := cut(slowPrint(q))
		for i := range parts {
			ahead, behind := strings.Join(parts[:i], " ")+" ", " "+strings.Join(parts[i+1:], " ")
			changed := []string{ahead + behind}
			for _, other := range all {
				changed = append(changed, ahead+other+behind, ahead+other+" "+parts[i]+behind)
			}
			if i+1 < len(parts) {
				changed = append(changed, ahead+parts[i+1]+" "+parts[i]+" "+strings.Join(parts[i+2:], " "))
			}
			for _, s := range changed {
				if wantSlow(t, s) == api.OK {
					whole++
				}
			}
		}
	}
	if whole < 1000 {
		t.Errorf("%d texts were statements still: too few", whole)
	}
}

// P19.1: all short texts, behind each beginning that has a choice.
func TestShortTexts(t *testing.T) {
	all := tokens()
	for _, ahead := range []string{"", "CREATE", "INSERT", "UPDATE", "UPDATE t", "DELETE", "DELETE a", "SELECT", "SELECT a", "SELECT * FROM t WHERE k = 'x'", "INSERT INTO t (a) VALUES (1)", "UPDATE t SET a = 1 WHERE k = 'x'", "DELETE FROM t"} {
		for _, one := range all {
			wantSlow(t, ahead+" "+one)
			for _, two := range all {
				wantSlow(t, ahead+" "+one+" "+two)
			}
		}
	}
}

// P19.1: lexer's errors, with their bytes, are ahead of a token that is out of place, wherever they stand.
func TestLexersErrors(t *testing.T) {
	wantWrong(t, "^?")
	wantWrong(t, "SELECT * FROM t WHERE k = 'x' ^?")
	wantWrong(t, "SELECT ^? FROM")
	wantWrong(t, "SELECT ^? FROM FROM t")
	wantWrong(t, "SELECT a b FROM t WHERE k = ^? 5")
	wantWrong(t, "FROM FROM FROM ^;")
	wantWrong(t, "a ^-")
	wantWrong(t, "SELECT a b 'x^\x00'")
	wantWrong(t, "SELECT SELECT 'x^")
	wantWrong(t, "SELECT SELECT ^99999999999999999999")
	wantWrong(t, "SELECT SELECT ^abcdefghijklmnopq")
	wantWrong(t, "SELECT * FROM t WHERE k = 'x' LIMIT 1000001 ^>")
	wantWrong(t, "CREATE TABLE t (k TEXT, r INT, a INT, PRIMARY KEY (r, k)) ^!")
	wantWrong(t, "INSERT INTO t (a, b) VALUES (1) ^[")
	wantWrong(t, "SELECT a, b, c, d, e, f, g, h, i, j, k FROM t WHERE k = ^$")
	for _, q := range samples() {
		l := cut(slowPrint(q))
		for i := range len(l) + 1 {
			ahead, behind := strings.Join(l[:i], " "), strings.Join(l[i:], " ")
			for _, bad := range []string{"?", "_a", "- 1", "9223372036854775808", ">", "\xff"} {
				wantNone(t, ahead+" "+bad+" "+behind, len(ahead)+1, api.ErrSyntax)
				wantNone(t, "SET "+ahead+" "+bad+" "+behind, len(ahead)+5, api.ErrSyntax)
			}
		}
	}
}

// P19.1: MaxQuery bytes may be, one more are ErrText, with byte 0, whatever else is wrong.
func TestTextLength(t *testing.T) {
	want := api.Statement{Kind: api.DoSelect, Table: "t", Where: oneRow(), Limit: -1}
	s := "SELECT * FROM t " + oneRowText
	for _, n := range []int{api.MaxQuery - 1, api.MaxQuery} {
		blanks := strings.Repeat(" ", n-len(s))
		wantParse(t, s+blanks, want)
		wantParse(t, blanks+s, want)
		wantParse(t, strings.Replace(s, " * ", blanks+" * ", 1), want)
		wantParse(t, s+"--"+blanks[2:], want)
		wantNone(t, "x"+blanks+s[1:], 0, api.ErrSyntax)
		wantNone(t, s[:len(s)-1]+blanks+" ", n, api.ErrSyntax)
	}
	for _, n := range []int{api.MaxQuery + 1, api.MaxQuery + 2, 1 << 20} {
		blanks := strings.Repeat(" ", n-len(s))
		for _, long := range []string{s + blanks, blanks + s, "?" + blanks + s[1:], s[1:] + blanks + "x", strings.Repeat("a", n), strings.Repeat("(", n)} {
			wantNone(t, long, 0, api.ErrText)
		}
	}
}

// P19.1: words and names in letters of any size, and names that words are a part of; words are no names.
func TestLetters(t *testing.T) {
	want := api.Statement{Kind: api.DoUpdate, Table: "t", Items: []api.Item{set("a_1", number(1))}, Where: oneRow(), Timed: true, Time: 5, Level: api.Quorum}
	wantParse(t, "UPDATE T USING TIMESTAMP 5 SET A_1 = 1 WHERE K = 'x' AND R = 1 CONSISTENCY QUORUM", want)
	wantParse(t, "update t using timestamp 5 set a_1 = 1 where k = 'x' and r = 1 consistency quorum", want)
	wantParse(t, "uPdATE t Using tIMESTAMP 5 sET a_1 = 1 wHere k = 'x' aNd r = 1 cONSISTENCy qUORUm", want)
	wantParse(t, "create table T (K text, R int, A int, B Text, primary key (k, R))", api.Statement{Kind: api.DoCreate, Table: "t",
		Schema: api.Table{Name: "t", Part: "k", Row: "r", Columns: []api.Column{{Name: "a", Kind: api.Int}, {Name: "b", Kind: api.Str}}}})
	for _, name := range []string{"a", "z9", "selects", "key_", "int1", "on", "tables", "update_", "abcdefghijklmnop"} {
		wantParse(t, "SELECT "+strings.ToUpper(name)+" FROM "+name+" WHERE "+name+" = 1",
			api.Statement{Kind: api.DoSelect, Table: name, Columns: []string{name}, Where: []api.Cond{cond(name, "=", number(1))}, Limit: -1})
	}
	for _, word := range theWords() {
		for _, s := range []string{word, strings.ToLower(word)} {
			wantWrong(t, "SELECT a FROM ^"+s+" WHERE k = 1")
			wantWrong(t, "SELECT a FROM t WHERE ^"+s+" = 1")
			wantWrong(t, "SELECT a, ^"+s+" FROM t WHERE k = 1")
			wantWrong(t, "CREATE TABLE ^"+s+" (k TEXT, r INT, a INT, PRIMARY KEY (k, r))")
			wantWrong(t, "CREATE TABLE t (^"+s+" TEXT, r INT, a INT, PRIMARY KEY ("+s+", r))")
			wantWrong(t, "CREATE TABLE t (k TEXT, ^"+s+" INT, a INT, PRIMARY KEY (k, "+s+"))")
			wantWrong(t, "CREATE TABLE t (k TEXT, r INT, ^"+s+" INT, PRIMARY KEY (k, r))")
			wantWrong(t, "INSERT INTO ^"+s+" (a) VALUES (1)")
			wantWrong(t, "INSERT INTO t (^"+s+") VALUES (1)")
			wantWrong(t, "UPDATE ^"+s+" SET a = 1 WHERE k = 1")
			wantWrong(t, "UPDATE t SET ^"+s+" = 1 WHERE k = 1")
			wantWrong(t, "DELETE FROM ^"+s+" WHERE k = 1")
		}
	}
}

// P19.1: blanks and notes wherever they may be, and none where they need not.
func TestBlanksBetween(t *testing.T) {
	for _, q := range samples() {
		parts := cut(slowPrint(q))
		for _, between := range []string{"  ", "\t", "\r\n", "\n-- SELECT ' ?\n", "--\n", " \t\n\r-- ) \n -- ( \n"} {
			s := between + strings.Join(parts, between) + between
			if len(s) > api.MaxQuery {
				wantNone(t, s, 0, api.ErrText)
			} else {
				wantParse(t, s, q)
			}
		}
	}
	wantParse(t, "SELECT*FROM t WHERE k='x'AND r>=-5AND r<5LIMIT 3CONSISTENCY ONE", api.Statement{Kind: api.DoSelect, Table: "t",
		Where: []api.Cond{cond("k", "=", text("x")), cond("r", ">=", number(-5)), cond("r", "<", number(5))}, Limit: 3, Level: api.One})
	wantParse(t, "INSERT INTO t(k,r)VALUES('x',-5)USING TIMESTAMP-5CONSISTENCY ONE", api.Statement{Kind: api.DoInsert, Table: "t",
		Items: []api.Item{set("k", text("x")), set("r", number(-5))}, Timed: true, Time: -5, Level: api.One})
	wantWrong(t, "SELECT * FROM t WHERE k = 1^a = 2")
}
