package syntax_test

import (
	"slices"
	"strconv"
	"strings"

	"skerry/api"
	"skerry/lexer"
)

// rule tells all places behind what it is the rule of, from a place of the tokens on; far is the last place at which some token was asked for.
type rule func(l []lexer.Token, at int, far *int) []int

// one: a token by itself.
func one(fits func(l []lexer.Token, t lexer.Token) bool) rule {
	return func(l []lexer.Token, at int, far *int) []int {
		*far = max(*far, at)
		if at < len(l) && fits(l, l[at]) {
			return []int{at + 1}
		}
		return nil
	}
}

func nothing() rule { return one(func([]lexer.Token, lexer.Token) bool { return false }) }

func sign(kind int, s string) rule {
	return one(func(_ []lexer.Token, t lexer.Token) bool { return t.Kind == kind && t.S == s })
}

func kindOf(kind int) rule {
	return one(func(_ []lexer.Token, t lexer.Token) bool { return t.Kind == kind })
}

func intFrom(least, most int) rule {
	return one(func(_ []lexer.Token, t lexer.Token) bool {
		return t.Kind == lexer.KindLiteral && t.Value.Kind == api.Int && t.Value.N >= least && t.Value.N <= most
	})
}

// likeToken: the name that token i is.
func likeToken(i int) rule {
	return one(func(l []lexer.Token, t lexer.Token) bool { return t.Kind == lexer.KindName && t.S == l[i].S })
}

func row(rules ...rule) rule {
	return func(l []lexer.Token, at int, far *int) []int {
		places := []int{at}
		for _, r := range rules {
			var behind []int
			for _, place := range places {
				behind = append(behind, r(l, place, far)...)
			}
			places = behind
		}
		return places
	}
}

func either(rules ...rule) rule {
	return func(l []lexer.Token, at int, far *int) []int {
		var places []int
		for _, r := range rules {
			places = append(places, r(l, at, far)...)
		}
		return places
	}
}

func maybe(r rule) rule { return either(row(), r) }

// times: just n of a rule, with another one between.
func times(n int, r, between rule) rule {
	rules := []rule{r}
	for range n - 1 {
		rules = append(rules, between, r)
	}
	return row(rules...)
}

// upTo: a list that is not too long; or what is between the last item and one too many, behind which nothing goes on.
func upTo(most int, r, between rule) rule {
	rules := []rule{row(times(most, r, between), between, nothing())}
	for n := range most {
		rules = append(rules, times(n+1, r, between))
	}
	return either(rules...)
}

// spelt: a row of words and ops as they are, and of these: n a name, v a literal, i an Int, ? the next one of the other rules.
func spelt(s string, more ...rule) rule {
	var rules []rule
	for _, part := range strings.Fields(s) {
		switch {
		case part == "n":
			rules = append(rules, kindOf(lexer.KindName))
		case part == "v":
			rules = append(rules, kindOf(lexer.KindLiteral))
		case part == "i":
			rules = append(rules, intFrom(-1<<63, 1<<63-1))
		case part == "?":
			rules = append(rules, more[0])
			more = more[1:]
		case part[0] >= 'A' && part[0] <= 'Z':
			rules = append(rules, sign(lexer.KindWord, part))
		default:
			rules = append(rules, sign(lexer.KindOp, part))
		}
	}
	return row(rules...)
}

// grammar: the chapter's words on what a statement is.
func grammar() rule {
	names := upTo(10, spelt("n"), spelt(","))
	using := maybe(spelt("USING TIMESTAMP i"))
	operator := either(spelt("="), spelt(">="), spelt("<"))
	where := spelt("WHERE ?", upTo(4, spelt("n ? v", operator), spelt("AND")))
	limit := maybe(spelt("LIMIT ?", intFrom(0, 1000000)))
	consistency := maybe(spelt("CONSISTENCY ?", either(spelt("ONE"), spelt("QUORUM"), spelt("ALL"))))
	columns := upTo(6, spelt("n ?", either(spelt("INT"), spelt("TEXT"))), spelt(","))
	// As many literals as names; or what is behind 10 names and a comma.
	values := []rule{spelt("( ? , ?", times(10, spelt("n"), spelt(",")), nothing())}
	for n := 1; n <= 10; n++ {
		values = append(values, spelt("( ? ) VALUES ( ? )", times(n, spelt("n"), spelt(",")), times(n, spelt("v"), spelt(","))))
	}
	return row(either(
		spelt("CREATE TABLE n ( n TEXT , n INT , ? , PRIMARY KEY ( ? , ? ) )", columns, likeToken(4), likeToken(7)),
		spelt("INSERT INTO n ? ? ?", either(values...), using, consistency),
		spelt("UPDATE n ? SET ? ? ?", using, upTo(10, spelt("n = v"), spelt(",")), where, consistency),
		spelt("DELETE ? FROM n ? ? ?", maybe(names), using, where, consistency),
		spelt("SELECT ? FROM n ? ? ?", either(names, spelt("*")), where, limit, consistency),
	), kindOf(lexer.KindEnd))
}

var theGrammar = grammar()

// slowParse: Parse by the grammar, of tokens.
func slowParse(l []lexer.Token) (api.Statement, int, api.Errno) {
	far := 0
	if len(theGrammar(l, 0, &far)) == 0 {
		return api.Statement{}, l[far].At, api.ErrSyntax
	}
	return slowStatement(l), 0, api.OK
}

// slowStatement: of tokens that are one, each part being looked for by the word ahead of it.
func slowStatement(l []lexer.Token) api.Statement {
	find := func(s string) int {
		return slices.IndexFunc(l, func(t lexer.Token) bool { return t.S == s && t.Kind != lexer.KindName })
	}
	q := api.Statement{Kind: 1 + slices.Index([]string{"CREATE", "INSERT", "UPDATE", "DELETE", "SELECT"}, l[0].S)}
	q.Table = l[map[int]int{1: 2, 2: 2, 3: 1, 4: find("FROM") + 1, 5: find("FROM") + 1}[q.Kind]].S
	if i := find("USING"); i > 0 {
		q.Timed, q.Time = true, l[i+2].Value.N
	}
	if i := find("CONSISTENCY"); i > 0 {
		q.Level = 1 + slices.Index([]string{"ONE", "QUORUM", "ALL"}, l[i+1].S)
	}
	if i := find("WHERE"); i > 0 {
		for i == find("WHERE") || l[i].S == "AND" {
			q.Where = append(q.Where, cond(l[i+1].S, l[i+2].S, l[i+3].Value))
			i += 4
		}
	}
	switch q.Kind {
	case api.DoCreate:
		q.Schema = api.Table{Name: q.Table, Part: l[4].S, Row: l[7].S}
		for i := 10; i < find("PRIMARY"); i += 3 {
			q.Schema.Columns = append(q.Schema.Columns, api.Column{Name: l[i].S, Kind: map[string]int{"INT": 1, "TEXT": 2}[l[i+1].S]})
		}
	case api.DoInsert:
		for i := 4; i < find("VALUES"); i += 2 {
			q.Items = append(q.Items, set(l[i].S, l[i+find("VALUES")-2].Value))
		}
	case api.DoUpdate:
		for i := find("SET") + 1; i < find("WHERE"); i += 4 {
			q.Items = append(q.Items, set(l[i].S, l[i+2].Value))
		}
	case api.DoSelect:
		q.Limit = -1
		if i := find("LIMIT"); i > 0 {
			q.Limit = l[i+1].Value.N
		}
	}
	for i := 1; q.Kind >= api.DoDelete && i < find("FROM"); i++ {
		if l[i].Kind == lexer.KindName {
			q.Columns = append(q.Columns, l[i].S)
		}
	}
	return q
}

func slowLiteral(v api.Value) string {
	switch v.Kind {
	case api.Int:
		return strconv.Itoa(v.N)
	case api.Str:
		return lexer.Quote(v.S)
	}
	return "?"
}

// gather: a text for each of a list, with another one between.
func gather[T any](l []T, between string, print func(x T) string) string {
	var texts []string
	for _, x := range l {
		texts = append(texts, print(x))
	}
	return strings.Join(texts, between)
}

func itself(s string) string { return s }

// slowPrint: the text of a good statement; of others one that is parsed to something else, or to nothing.
func slowPrint(q api.Statement) string {
	kinds := map[int]string{api.Int: "INT", api.Str: "TEXT"}
	levels := map[int]string{0: "", api.One: " CONSISTENCY ONE", api.Quorum: " CONSISTENCY QUORUM", api.All: " CONSISTENCY ALL"}
	least, ok := levels[q.Level]
	if !ok {
		return "?"
	}
	using, limit := "", ""
	if q.Timed {
		using = " USING TIMESTAMP " + strconv.Itoa(q.Time)
	}
	if q.Limit >= 0 {
		limit = " LIMIT " + strconv.Itoa(q.Limit)
	}
	where := " WHERE " + gather(q.Where, " AND ", func(c api.Cond) string { return c.Column + " " + c.Op + " " + slowLiteral(c.Value) })
	names := gather(q.Columns, ", ", itself)
	switch q.Kind {
	case api.DoCreate:
		t := q.Schema
		columns := gather(t.Columns, "", func(c api.Column) string { return c.Name + " " + kinds[c.Kind] + ", " })
		return "CREATE TABLE " + t.Name + " (" + t.Part + " TEXT, " + t.Row + " INT, " + columns + "PRIMARY KEY (" + t.Part + ", " + t.Row + "))"
	case api.DoInsert:
		columns := gather(q.Items, ", ", func(i api.Item) string { return i.Column })
		values := gather(q.Items, ", ", func(i api.Item) string { return slowLiteral(i.Value) })
		return "INSERT INTO " + q.Table + " (" + columns + ") VALUES (" + values + ")" + using + least
	case api.DoUpdate:
		items := gather(q.Items, ", ", func(i api.Item) string { return i.Column + " = " + slowLiteral(i.Value) })
		return "UPDATE " + q.Table + using + " SET " + items + where + least
	case api.DoDelete:
		return strings.Join(strings.Fields("DELETE "+names), " ") + " FROM " + q.Table + using + where + least
	case api.DoSelect:
		if len(q.Columns) == 0 {
			names = "*"
		}
		return "SELECT " + names + " FROM " + q.Table + where + limit + least
	}
	return "?"
}

// slowTokens: of a text of any length, in which no token ends more than 600 bytes behind the one ahead of it.
func slowTokens(s string) ([]lexer.Token, bool) {
	var l []lexer.Token
	for at := 0; ; {
		t, _, e := lexer.Next(s[at:min(len(s), at+api.MaxQuery)], 0)
		if e != api.OK {
			return nil, false
		}
		t.At, t.End = t.At+at, t.End+at
		l = append(l, t)
		if t.Kind == lexer.KindEnd {
			return l, true
		}
		at = t.End
	}
}

// slowGood: is the statement what its own text is parsed to? If any text is, that one is.
func slowGood(q api.Statement) bool {
	l, ok := slowTokens(slowPrint(q))
	if !ok {
		return false
	}
	got, _, e := slowParse(l)
	return e == api.OK && alike(got, q)
}
