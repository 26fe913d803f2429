package engine

import (
	"skerry/api"
	"skerry/manifest"
	"skerry/merge"
	"skerry/purge"
	"skerry/skip"
	"skerry/table"
)

const mostTables = 30 // of a manifest

// flushMemory: what memory has becomes the last table. Till the manifest is stored, the log has it.
func (e *Engine) flushMemory() api.Errno {
	if len(e.now.tables) >= mostTables {
		return api.ErrFull
	}
	t, errno := e.write(e.now.memory.All())
	if errno != api.OK {
		return errno
	}
	segment, errno := e.log.Roll()
	if errno != api.OK {
		return errno
	}
	next := e.now.without(nil)
	next.add(e.now.manifest.Next, t)
	next.manifest.From = segment
	next.memory = skip.New(e.levels)
	if errno := e.store(next); errno != api.OK {
		return errno
	}
	return powerAlone(e.log.Retire(segment))
}

// compact: what the tables at these places have becomes the last table. Till the manifest is stored, they have it.
func (e *Engine) compact(chosen []int, now, grace int) api.Errno {
	before, next := e.now, e.now.without(chosen)
	merged := merge.All(cellsOf(at(before.tables, chosen))...)
	cells := purge.Table(merged, next.tables, next.memory.All(), now, grace)
	if len(cells) > 0 {
		t, errno := e.write(cells)
		if errno != api.OK {
			return errno
		}
		next.add(before.manifest.Next, t)
	}
	if errno := e.store(next); errno != api.OK {
		return errno
	}
	return e.remove(at(before.manifest.Tables, chosen))
}

// write: cells as a table, in the file of the next one, where they are sure.
func (e *Engine) write(cells []api.Cell) (*table.Table, api.Errno) {
	b, errno := table.Write(cells)
	if errno != api.OK {
		// Also of more cells than a table may have: no argument of the caller's is wrong then.
		return nil, api.ErrFull
	}
	t, errno := table.Open(b)
	if errno != api.OK {
		return nil, errno
	}
	name := manifest.File(e.now.manifest.Next)
	if errno := e.disk.Create(name); errno != api.OK {
		return nil, errno
	}
	if errno := e.disk.Append(name, b); errno != api.OK {
		return nil, errno
	}
	return t, e.disk.Sync(name)
}

// store: the engine has that state from the moment on when an Open would find it.
func (e *Engine) store(s *state) api.Errno {
	errno := manifest.Store(e.disk, s.manifest)
	if errno == api.OK {
		e.enter(s)
	}
	return errno
}

// remove: the files of tables that no manifest names any more.
func (e *Engine) remove(numbers []int) api.Errno {
	for _, n := range numbers {
		if errno := powerAlone(e.disk.Remove(manifest.File(n))); errno != api.OK {
			return errno
		}
	}
	return api.OK
}
