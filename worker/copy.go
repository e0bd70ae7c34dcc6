package worker

import (
	"slices"

	"bowsprit/api"
	"bowsprit/task"
)

// copied is a list of copies.
func copied[T any](l []T, copyOf func(T) T) []T {
	own := make([]T, len(l))
	copy(own, l)
	for k := range own {
		own[k] = copyOf(own[k])
	}
	return own
}

func copyOfRows(rows []api.Row) []api.Row {
	return copied(rows, slices.Clone[api.Row])
}

func copyOfTable(t api.Table) api.Table {
	t.Columns, t.Keys = slices.Clone(t.Columns), slices.Clone(t.Keys)
	return t
}

// ownTask has a task hear what is no message: that changes nothing, and what it answers has memory of its own. So the task is asked whether it may be as it is copied.
func ownTask(t api.Task) (api.Task, api.Errno) {
	return task.Hear(t, api.Msg{})
}

// copyOf is a worker that shares nothing with the one that it is of, but what each of its tasks has.
func copyOf(w api.Worker) api.Worker {
	w.Catalog.Tables = copied(w.Catalog.Tables, copyOfTable)
	w.Tables = copied(w.Tables, copyOfRows)
	w.Tasks = slices.Clone(w.Tasks)
	return w
}
