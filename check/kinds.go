package check

import (
	"cmp"
	"slices"

	"skerry/api"
	"skerry/level"
	"skerry/schema"
)

// kind has what the statements of one kind are checked by, and what writes the cells of their plans.
type kind struct {
	check func(c *checker)
	write func(w *writer)
}

// kindOf: what is none has no check, as no statement of it is good.
func kindOf(n int) kind {
	switch n {
	case api.DoCreate:
		return kind{check: create, write: writeNone}
	case api.DoInsert:
		return kind{check: ofTable(insert), write: writeRow}
	case api.DoUpdate:
		return kind{check: ofTable(update), write: writeItems}
	case api.DoDelete:
		return kind{check: ofTable(remove), write: writeDead}
	case api.DoSelect:
		return kind{check: ofTable(choose), write: writeNone}
	}
	return kind{write: writeNone}
}

// checker makes the plan of a good statement, part by part.
type checker struct {
	q      api.Statement
	tables []api.Table
	level  int
	plan   Plan
}

func create(c *checker) {
	t := c.q.Schema
	e := schema.Table(t)
	want(e == api.OK, e)
	_, there := schema.Find(c.tables, t.Name)
	want(!there, api.ErrExists)
	want(len(c.tables) < api.MaxTables, api.ErrFull)
	t.Columns = slices.Clone(t.Columns)
	c.plan.Table = t
}

// ofTable is for the kinds that are about a table that is there. The level stands behind what the kind names, as its error is the last one.
func ofTable(parts func(c *checker)) func(c *checker) {
	return func(c *checker) {
		c.takeTable()
		c.plan.Time, c.plan.Timed = c.q.Time, c.q.Timed
		parts(c)
		c.takeLevel()
	}
}

func (c *checker) takeTable() {
	t, there := schema.Find(c.tables, c.q.Table)
	want(there, api.ErrTable)
	c.plan.Table = t
}

func (c *checker) takeLevel() {
	least := cmp.Or(c.q.Level, c.level)
	want(level.Good(least), api.ErrArg)
	c.plan.Level = least
}

func insert(c *checker) {
	c.takeItems(isPlace)
	t := c.plan.Table
	part, row := itemsOf(c.q.Items, t.Part), itemsOf(c.q.Items, t.Row)
	want(len(part) > 0 && len(row) > 0, api.ErrColumn)
	c.wantKinds()
	want(part[0].Value.S != "", api.ErrArg)
	c.plan.Part, c.plan.Row = part[0].Value.S, row[0].Value.N
}

func update(c *checker) {
	c.takeItems(isColumn)
	c.wantKinds()
	c.takeOneRow()
}

func remove(c *checker) {
	c.takeColumns()
	c.plan.Whole = len(c.q.Columns) == 0
	c.takeOneRow()
}

func choose(c *checker) {
	c.takeColumns()
	c.plan.Limit = c.q.Limit
	c.takeRows()
}

// takeItems takes those that set a table's columns, in the table's order. Which others there may be says may.
func (c *checker) takeItems(may func(t api.Table, name string) bool) {
	t, items := c.plan.Table, c.q.Items
	for _, i := range items {
		want(may(t, i.Column), api.ErrColumn)
	}
	for _, i := range items {
		want(len(itemsOf(items, i.Column)) == 1, api.ErrExists)
	}
	for _, column := range t.Columns {
		c.plan.Items = append(c.plan.Items, itemsOf(items, column.Name)...)
	}
}

// wantKinds: has each item's value the kind of its place?
func (c *checker) wantKinds() {
	for _, i := range c.q.Items {
		want(i.Value.Kind == kindAt(c.plan.Table, i.Column), api.ErrType)
	}
}

func (c *checker) takeColumns() {
	columns, ok := schema.Order(c.plan.Table, c.q.Columns)
	want(ok, api.ErrColumn)
	c.plan.Columns = columns
}

func itemsOf(l []api.Item, column string) []api.Item {
	var out []api.Item
	for _, i := range l {
		if i.Column == column {
			out = append(out, i)
		}
	}
	return out
}

func isColumn(t api.Table, name string) bool {
	_, ok := schema.Column(t, name)
	return ok
}

// isOfKey: is it one of the two names that say which row is meant?
func isOfKey(t api.Table, name string) bool { return name == t.Part || name == t.Row }

func isPlace(t api.Table, name string) bool { return isOfKey(t, name) || isColumn(t, name) }

// kindAt: which kind the values of a table's place have.
func kindAt(t api.Table, name string) int {
	switch name {
	case t.Part:
		return api.Str
	case t.Row:
		return api.Int
	}
	column, _ := schema.Column(t, name)
	return column.Kind
}
