package rewrite

import (
	"bowsprit/api"
	"bowsprit/logic"
)

// tree is an operator over its parts. The places that the operator says of them do not count: they are told anew when the tree is laid.
type tree struct {
	api.LNode
	parts []tree
	nodes int  // how many it has in all
	calm  bool // whether it is known that no rule holds of it, nor of what is below it
}

// over is an operator over parts, of which no more is known.
func over(n api.LNode, parts ...tree) tree {
	t := tree{LNode: n, parts: parts, nodes: 1}
	for _, p := range parts {
		t.nodes += p.nodes
	}
	return t
}

// fits tells whether a tree has no more nodes than one may have.
func (t tree) fits() bool {
	return t.nodes <= api.MaxLogic
}

// stands tells whether the root is of the first operator, its first part of the next one, and so on.
func (t tree) stands(ops ...int) bool {
	return len(ops) == 0 || t.Op == ops[0] && (len(ops) == 1 || t.parts[0].stands(ops[1:]...))
}

// taken is a tree that may be, taken apart.
func taken(l api.Logic) tree {
	var at func(place int) tree
	at = func(place int) tree {
		n := l.Nodes[place]
		var parts []tree
		for _, p := range []int{n.A, n.B} {
			if p >= 0 {
				parts = append(parts, at(p))
			}
		}
		return over(n, parts...)
	}
	return at(len(l.Nodes) - 1)
}

// laid is a tree as nodes in their order. Part makes them share no list with those that were handed in.
func laid(t tree) api.Logic {
	var l api.Logic
	var lay func(t tree) int
	lay = func(t tree) int {
		places := [2]int{-1, -1}
		for k, p := range t.parts {
			places[k] = lay(p)
		}
		t.A, t.B = places[0], places[1]
		l.Nodes = append(l.Nodes, t.LNode)
		return len(l.Nodes) - 1
	}
	own, _ := logic.Part(l, lay(t))
	return own
}
