package place

import (
	"iter"
	"slices"

	"bowsprit/api"
	"bowsprit/denote"
	"bowsprit/row"
)

// anyhow stands for the node of a row of which the scheme says nothing.
const anyhow = 0

// spot is where a row stands: the number of its node (from 1 on), the place of its table, and its own place in that table there.
type spot struct {
	node, table, at int
}

// each goes over all rows of a layout: node by node, table by table, in their order.
func each(l api.Layout) iter.Seq2[spot, api.Row] {
	return func(yield func(spot, api.Row) bool) {
		for k, part := range l.Parts {
			for table, list := range part.Tables {
				for at, r := range list {
					if !yield(spot{node: k + 1, table: table, at: at}, r) {
						return
					}
				}
			}
		}
	}
}

// isCount tells whether a layout may be for so many nodes.
func isCount(nodes int) bool {
	return nodes >= 1 && nodes <= api.MaxSites
}

// mayBe tells whether a layout may be one of a catalog that may be.
func mayBe(c api.Catalog, l api.Layout) bool {
	mayNotBe := func(part api.Base) bool { return denote.CheckBase(c, part) != api.OK }
	if !isCount(len(l.Parts)) || slices.ContainsFunc(l.Parts, mayNotBe) {
		return false
	}
	counts := map[int]int{}
	for s := range each(l) {
		counts[s.table]++
		if counts[s.table] > api.MaxTable {
			return false
		}
	}
	return true
}

// scheme tells at which of so many nodes each row of a table lies by the hash of its Keys; anyhow, if there are none.
func scheme(c api.Catalog, nodes int) func(table int, r api.Row) int {
	return func(table int, r api.Row) int {
		keys := c.Tables[table].Keys
		if len(keys) == 0 {
			return anyhow
		}
		hash, _ := row.Hash(r, keys)
		return 1 + int(hash%uint32(nodes))
	}
}

// obeys asks a layout that may be.
func obeys(c api.Catalog, l api.Layout) bool {
	nodeOf := scheme(c, len(l.Parts))
	for s, r := range each(l) {
		if node := nodeOf(s.table, r); node != anyhow && node != s.node {
			return false
		}
	}
	return true
}

// dealt is the node of a row without Keys, which stands at a place of its table. What is left of a number below 0 is below 0, too: it is lifted once more.
func dealt(at, nodes int, spread []int) int {
	number := at
	if len(spread) > 0 {
		number = spread[at%len(spread)]
	}
	return 1 + (number%nodes+nodes)%nodes
}

// bare is a layout without rows.
func bare(nodes, tables int) api.Layout {
	l := api.Layout{Parts: make([]api.Base, nodes)}
	for k := range l.Parts {
		l.Parts[k].Tables = make([][]api.Row, tables)
	}
	return l
}

// copied is a table of copies of the rows, so that what is done to an answer does not reach what was handed in.
func copied(table []api.Row) []api.Row {
	out := make([]api.Row, len(table))
	copy(out, table)
	for at, r := range out {
		out[at] = slices.Clone(r)
	}
	return out
}

// put lays a copy of a row behind all others of its table at a node. The layout has to be the program's own.
func put(l api.Layout, node, table int, r api.Row) {
	tables := l.Parts[node-1].Tables
	tables[table] = append(tables[table], slices.Clone(r))
}
