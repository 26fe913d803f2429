package check

import "skerry/api"

// writer gathers the cells of a plan's row.
type writer struct {
	plan  Plan
	time  int
	local int
	cells []api.Cell
}

func writeNone(*writer) {}

// writeRow writes the row's mark, too: the row is there even if nothing is set in it.
func writeRow(w *writer) {
	w.live("", api.Value{Kind: api.None})
	writeItems(w)
}

func writeItems(w *writer) {
	for _, i := range w.plan.Items {
		w.live(i.Column, i.Value)
	}
}

func writeDead(w *writer) {
	for _, name := range w.plan.Columns {
		w.dead(name)
	}
	if w.plan.Whole {
		w.dead("")
	}
}

func (w *writer) live(column string, v api.Value) {
	w.put(column, api.Version{Time: w.time, Value: v})
}

func (w *writer) dead(column string) {
	w.put(column, api.Version{Time: w.time, Dead: true, Local: w.local})
}

func (w *writer) put(column string, v api.Version) {
	k := api.Key{Table: w.plan.Table.Name, Part: w.plan.Part, Row: w.plan.Row, Column: column}
	w.cells = append(w.cells, api.Cell{Key: k, Version: v})
}
