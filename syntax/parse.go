package syntax

import (
	"math"

	"skerry/api"
	"skerry/level"
	"skerry/lexer"
)

// wrong is what a parser panics with: the byte at which the token begins with which no statement goes on.
type wrong int

// parser goes through tokens, of which the first one is next. The last one is the end, which is never taken.
type parser struct {
	tokens []lexer.Token
	q      api.Statement
}

func (p *parser) statement() api.Statement {
	kind, rest := p.opened()
	p.take(rest != nil)
	p.q.Kind = kind
	rest()
	p.want(p.tokens[0].Kind == lexer.KindEnd)
	return p.q
}

// opened: which kind the next word opens, and what parses the rest of it.
func (p *parser) opened() (kind int, rest func()) {
	switch p.tokens[0].S {
	case "CREATE":
		return api.DoCreate, p.create
	case "INSERT":
		return api.DoInsert, p.insert
	case "UPDATE":
		return api.DoUpdate, p.update
	case "DELETE":
		return api.DoDelete, p.delete
	case "SELECT":
		return api.DoSelect, p.choose
	}
	return 0, nil
}

func (p *parser) create() {
	p.must("TABLE")
	p.q.Table = p.name()
	t := api.Table{Name: p.q.Table}
	p.must("(")
	t.Part = p.name()
	p.must("TEXT", ",")
	t.Row = p.name()
	p.must("INT", ",")
	t.Columns = p.columns()
	p.must("PRIMARY", "KEY", "(", t.Part, ",", t.Row, ")", ")")
	p.q.Schema = t
}

func (p *parser) insert() {
	p.must("INTO")
	p.q.Table = p.name()
	p.must("(")
	names := p.names()
	p.must(")", "VALUES", "(")
	for i, name := range names {
		if i > 0 {
			p.must(",")
		}
		p.q.Items = append(p.q.Items, api.Item{Column: name, Value: p.literal()})
	}
	p.must(")")
	p.using()
	p.consistency()
}

func (p *parser) update() {
	p.q.Table = p.name()
	p.using()
	p.must("SET")
	p.list(mostItems, ",", func() {
		name := p.name()
		p.must("=")
		p.q.Items = append(p.q.Items, api.Item{Column: name, Value: p.literal()})
	})
	p.where()
	p.consistency()
}

func (p *parser) delete() {
	if !p.has("FROM") {
		p.q.Columns = p.names()
	}
	p.from()
	p.using()
	p.where()
	p.consistency()
}

func (p *parser) choose() {
	if !p.may("*") {
		p.q.Columns = p.names()
	}
	p.from()
	p.where()
	p.limit()
	p.consistency()
}

// columns: those behind the first two, each with the comma behind it.
func (p *parser) columns() []api.Column {
	var l []api.Column
	for len(l) == 0 || len(l) < api.MaxCols && !p.has("PRIMARY") {
		c := api.Column{Name: p.name(), Kind: api.Int}
		if p.may("TEXT") {
			c.Kind = api.Str
		} else {
			p.must("INT")
		}
		p.must(",")
		l = append(l, c)
	}
	return l
}

func (p *parser) from() {
	p.must("FROM")
	p.q.Table = p.name()
}

func (p *parser) using() {
	if p.may("USING") {
		p.must("TIMESTAMP")
		p.q.Timed, p.q.Time = true, p.number(math.MinInt, math.MaxInt)
	}
}

func (p *parser) where() {
	p.must("WHERE")
	p.list(mostConds, "AND", func() {
		name := p.name()
		op := p.take(isOperator(p.tokens[0].S)).S
		p.q.Where = append(p.q.Where, api.Cond{Column: name, Op: op, Value: p.literal()})
	})
}

func (p *parser) limit() {
	p.q.Limit = noLimit
	if p.may("LIMIT") {
		p.q.Limit = p.number(0, mostRows)
	}
}

func (p *parser) consistency() {
	if p.may("CONSISTENCY") {
		least, ok := level.Parse(p.tokens[0].S)
		p.take(ok)
		p.q.Level = least
	}
}

func (p *parser) names() []string {
	var l []string
	p.list(mostItems, ",", func() { l = append(l, p.name()) })
	return l
}

// list: one item and more, at most so many, with a word or an op between. What stands behind one too many is what is wrong.
func (p *parser) list(most int, between string, item func()) {
	item()
	for n := 1; p.may(between); n++ {
		p.want(n < most)
		item()
	}
}

func (p *parser) name() string { return p.take(p.tokens[0].Kind == lexer.KindName).S }

func (p *parser) literal() api.Value { return p.take(p.tokens[0].Kind == lexer.KindLiteral).Value }

func (p *parser) number(least, greatest int) int {
	v := p.tokens[0].Value
	p.take(v.Kind == api.Int && v.N >= least && v.N <= greatest)
	return v.N
}

// must: tokens that are next, one behind the other.
func (p *parser) must(texts ...string) {
	for _, s := range texts {
		p.take(p.has(s))
	}
}

// may: a token that is taken if it is next.
func (p *parser) may(s string) bool {
	if !p.has(s) {
		return false
	}
	p.take(true)
	return true
}

// has: is a word, an op or a name next? Its text alone tells: words are in capital letters, names in small ones.
func (p *parser) has(s string) bool { return p.tokens[0].S == s }

// take: the next token, if it may be there.
func (p *parser) take(fits bool) lexer.Token {
	p.want(fits)
	t := p.tokens[0]
	p.tokens = p.tokens[1:]
	return t
}

func (p *parser) want(fits bool) {
	if !fits {
		panic(wrong(p.tokens[0].At))
	}
}

func isOperator(s string) bool { return s == "=" || s == ">=" || s == "<" }
