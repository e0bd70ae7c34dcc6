package worker

import (
	"cmp"
	"slices"

	"bowsprit/api"
	"bowsprit/catalog"
	"bowsprit/row"
)

// within tells whether a number stands from least to most.
func within(n, least, most int) bool {
	return least <= n && n <= most
}

// isPlace tells whether there may be so many nodes besides the coordinator's, and that one among them all.
func isPlace(sites, node int) bool {
	return within(sites, 1, api.MaxSites) && within(node, 0, sites)
}

func isOf(c api.Column, v api.Value) bool {
	return v.Kind == api.VNull || v.Kind == c.Kind
}

func isRowOf(t api.Table, r api.Row) bool {
	return row.Check(r) == api.OK && slices.EqualFunc(t.Columns, r, isOf)
}

func isTableOf(t api.Table, rows []api.Row) bool {
	isAstray := func(r api.Row) bool { return !isRowOf(t, r) }
	return len(rows) <= api.MaxTable && !slices.ContainsFunc(rows, isAstray)
}

// areTables tells whether a node may have these tables of a catalog that may be.
func areTables(c api.Catalog, node int, tables [][]api.Row) bool {
	if node == 0 {
		return len(tables) == 0
	}
	return slices.EqualFunc(c.Tables, tables, isTableOf)
}

// epochs is the set of all that there may be: the bit 0 is none's.
const epochs = 1<<(api.MaxEpochs+1) - 2

// setOf is the set of an epoch alone; of none, if there is no such epoch.
func setOf(epoch int) uint32 {
	if !within(epoch, 1, api.MaxEpochs) {
		return 0
	}
	return 1 << epoch
}

func isIn(set uint32, epoch int) bool {
	return set&setOf(epoch) != 0
}

func areSets(has, gone uint32) bool {
	return has&gone == 0 && (has|gone)&^epochs == 0
}

func taskOrder(a, b api.Task) int {
	return cmp.Or(cmp.Compare(a.Epoch, b.Epoch), cmp.Compare(a.Number, b.Number))
}

// isNode tells whether a worker may be, if its tasks may.
func isNode(w api.Worker) bool {
	return isPlace(w.Sites, w.Node) && catalog.Check(w.Catalog) == api.OK && areTables(w.Catalog, w.Node, w.Tables) && areSets(w.Has, w.Gone) && areTasks(w)
}

// areTasks tells whether tasks are of that node, of its epochs, and in their order.
func areTasks(w api.Worker) bool {
	for place, t := range w.Tasks {
		if t.Sites != w.Sites || t.Node != w.Node || !isIn(w.Has, t.Epoch) {
			return false
		}
		if place > 0 && taskOrder(w.Tasks[place-1], t) >= 0 {
			return false
		}
	}
	return true
}
