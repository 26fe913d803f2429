package syntax

import (
	"slices"

	"skerry/api"
	"skerry/level"
	"skerry/schema"
)

// left is what is left of a statement: each part that was looked at is taken away, so that in the end there is nothing but what the kind does not name.
type left struct {
	q api.Statement
}

// takeAll: are the parts good that the kind names?
func (l *left) takeAll() bool {
	kind, table := l.q.Kind, l.q.Table
	l.q.Kind, l.q.Table = 0, ""
	if !schema.Name(table) {
		return false
	}
	switch kind {
	case api.DoCreate:
		return l.takeSchema(table)
	case api.DoInsert:
		return l.takeItems() && l.takeTime() && l.takeLevel()
	case api.DoUpdate:
		return l.takeTime() && l.takeItems() && l.takeWhere() && l.takeLevel()
	case api.DoDelete:
		return l.takeColumns() && l.takeTime() && l.takeWhere() && l.takeLevel()
	case api.DoSelect:
		return l.takeColumns() && l.takeWhere() && l.takeLimit() && l.takeLevel()
	}
	return false
}

func (l *left) takeSchema(name string) bool {
	t := l.q.Schema
	l.q.Schema = api.Table{}
	return t.Name == name && schema.Name(t.Part) && schema.Name(t.Row) && each(t.Columns, 1, api.MaxCols, isColumn)
}

func (l *left) takeItems() bool {
	items := l.q.Items
	l.q.Items = nil
	return each(items, 1, mostItems, isItem)
}

func (l *left) takeColumns() bool {
	columns := l.q.Columns
	l.q.Columns = nil
	return each(columns, 0, mostItems, schema.Name)
}

func (l *left) takeWhere() bool {
	where := l.q.Where
	l.q.Where = nil
	return each(where, 1, mostConds, isCond)
}

func (l *left) takeLimit() bool {
	limit := l.q.Limit
	l.q.Limit = 0
	return limit >= noLimit && limit <= mostRows
}

func (l *left) takeTime() bool {
	timed, time := l.q.Timed, l.q.Time
	l.q.Timed, l.q.Time = false, 0
	return timed || time == 0
}

func (l *left) takeLevel() bool {
	least := l.q.Level
	l.q.Level = 0
	return least == 0 || level.Good(least)
}

// each: has a list so many, and are all of them good?
func each[T any](l []T, least, most int, good func(x T) bool) bool {
	bad := func(x T) bool { return !good(x) }
	return len(l) >= least && len(l) <= most && !slices.ContainsFunc(l, bad)
}

func isColumn(c api.Column) bool {
	return schema.Name(c.Name) && (c.Kind == api.Int || c.Kind == api.Str)
}

func isItem(i api.Item) bool { return schema.Name(i.Column) && isLiteral(i.Value) }

func isCond(c api.Cond) bool {
	return schema.Name(c.Column) && isOperator(c.Op) && isLiteral(c.Value)
}

func isLiteral(v api.Value) bool {
	switch v.Kind {
	case api.Int:
		return v.S == ""
	case api.Str:
		return v.N == 0 && len(v.S) <= api.MaxText
	}
	return false
}
