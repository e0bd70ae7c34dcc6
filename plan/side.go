package plan

import (
	"slices"

	"bowsprit/api"
	"bowsprit/prop"
)

// side is what is planned of a part of a tree: the nodes of the fragment that is under way; where it runs; AtAll, by which columns its rows are hashed, if they are.
type side struct {
	nodes []api.LNode
	at    int
	cols  []int
}

// kinds are those of the columns that come of a side. A plan that is too long may have none: it reads a fragment of a number that there may not be.
func (s side) kinds() []int {
	kinds, _ := prop.Columns(api.Plan{Frags: []api.Frag{{Nodes: s.nodes}}})
	return kinds
}

// behind are a side's nodes with so many others ahead of them.
func (s side) behind(count int) []api.LNode {
	nodes := slices.Clone(s.nodes)
	for k, n := range nodes {
		if n.A >= 0 {
			nodes[k].A += count
		}
		if n.B >= 0 {
			nodes[k].B += count
		}
	}
	return nodes
}

// laid are the nodes of sides, one side's behind the other's, and a node that stands over them.
func laid(n api.LNode, sides ...side) []api.LNode {
	var nodes []api.LNode
	parts := [2]int{-1, -1}
	for k, s := range sides {
		nodes = append(nodes, s.behind(len(nodes))...)
		parts[k] = len(nodes) - 1
	}
	n.A, n.B = parts[0], parts[1]
	return append(nodes, n)
}

// over is a node that stands over a side, or over two that run alike; hashed as the first one.
func over(n api.LNode, first side, others ...side) side {
	first.nodes = laid(n, append([]side{first}, others...)...)
	return first
}

// moved are the places that find says of columns; none, if there is none for one of them.
func moved(cols []int, find func(col int) int) []int {
	var l []int
	for _, col := range cols {
		place := find(col)
		if place < 0 {
			return nil
		}
		l = append(l, place)
	}
	return l
}

// firsts are the first so many places.
func firsts(count int) []int {
	var l []int
	for k := range count {
		l = append(l, k)
	}
	return l
}
