package syntax

import (
	"strconv"
	"strings"

	"skerry/api"
	"skerry/level"
	"skerry/lexer"
)

// writer gathers the tokens of a good statement, as they are written.
type writer struct {
	q      api.Statement
	tokens []string
}

func (w *writer) statement() {
	switch w.q.Kind {
	case api.DoCreate:
		w.create()
	case api.DoInsert:
		w.insert()
	case api.DoUpdate:
		w.update()
	case api.DoDelete:
		w.delete()
	case api.DoSelect:
		w.choose()
	}
}

func (w *writer) create() {
	t := w.q.Schema
	w.put("CREATE", "TABLE", t.Name, "(", t.Part, "TEXT", ",", t.Row, "INT", ",")
	for _, c := range t.Columns {
		kind := "INT"
		if c.Kind == api.Str {
			kind = "TEXT"
		}
		w.put(c.Name, kind, ",")
	}
	w.put("PRIMARY", "KEY", "(", t.Part, ",", t.Row, ")", ")")
}

func (w *writer) insert() {
	items := w.q.Items
	w.put("INSERT", "INTO", w.q.Table, "(")
	w.list(len(items), ",", func(i int) { w.put(items[i].Column) })
	w.put(")", "VALUES", "(")
	w.list(len(items), ",", func(i int) { w.put(literal(items[i].Value)) })
	w.put(")")
	w.using()
	w.consistency()
}

func (w *writer) update() {
	items := w.q.Items
	w.put("UPDATE", w.q.Table)
	w.using()
	w.put("SET")
	w.list(len(items), ",", func(i int) { w.put(items[i].Column, "=", literal(items[i].Value)) })
	w.where()
	w.consistency()
}

func (w *writer) delete() {
	w.put("DELETE")
	w.names()
	w.put("FROM", w.q.Table)
	w.using()
	w.where()
	w.consistency()
}

func (w *writer) choose() {
	w.put("SELECT")
	if len(w.q.Columns) == 0 {
		w.put("*")
	}
	w.names()
	w.put("FROM", w.q.Table)
	w.where()
	w.limit()
	w.consistency()
}

func (w *writer) names() {
	w.list(len(w.q.Columns), ",", func(i int) { w.put(w.q.Columns[i]) })
}

func (w *writer) using() {
	if w.q.Timed {
		w.put("USING", "TIMESTAMP", strconv.Itoa(w.q.Time))
	}
}

func (w *writer) where() {
	w.put("WHERE")
	w.list(len(w.q.Where), "AND", func(i int) {
		c := w.q.Where[i]
		w.put(c.Column, c.Op, literal(c.Value))
	})
}

func (w *writer) limit() {
	if w.q.Limit != noLimit {
		w.put("LIMIT", strconv.Itoa(w.q.Limit))
	}
}

func (w *writer) consistency() {
	if w.q.Level != 0 {
		w.put("CONSISTENCY", level.Name(w.q.Level))
	}
}

// list: n items, with a word or an op between.
func (w *writer) list(n int, between string, item func(i int)) {
	for i := range n {
		if i > 0 {
			w.put(between)
		}
		item(i)
	}
}

func (w *writer) put(tokens ...string) { w.tokens = append(w.tokens, tokens...) }

func (w *writer) text() string {
	var out strings.Builder
	for i, t := range w.tokens {
		if i > 0 && w.tokens[i-1] != "(" && t != ")" && t != "," {
			out.WriteByte(' ')
		}
		out.WriteString(t)
	}
	return out.String()
}

func literal(v api.Value) string {
	if v.Kind == api.Int {
		return strconv.Itoa(v.N)
	}
	return lexer.Quote(v.S)
}
