package logic_test

import (
	"slices"

	"bowsprit/api"
	"bowsprit/expr"
)

// partsByRule says how many parts each operator has.
var partsByRule = map[int]int{api.LScan: 0, api.LJoin: 2, api.LFilter: 1, api.LGroup: 1, api.LProject: 1, api.LDistinct: 1, api.LUnion: 2, api.LSort: 1}

// countByRule is how many nodes stand below the node of a place, in order, and it; 0, if they are in none.
func countByRule(l []api.LNode, place int) int {
	if place < 0 || place >= len(l) {
		return 0
	}
	parts, known := partsByRule[l[place].Op]
	a, b := l[place].A, l[place].B
	switch {
	case known && parts == 0 && a == -1 && b == -1:
		return 1
	case known && parts == 1 && a == place-1 && b == -1:
		if below := countByRule(l, a); below > 0 {
			return below + 1
		}
	case known && parts == 2 && b == place-1:
		right := countByRule(l, b)
		if right > 0 && a == place-1-right {
			if left := countByRule(l, a); left > 0 {
				return left + right + 1
			}
		}
	}
	return 0
}

// bare tells whether of a node no field has anything but those that are named.
func bare(n api.LNode, fields ...string) bool {
	filled := map[string]bool{
		"Table": n.Table != 0, "Kinds": len(n.Kinds) > 0, "Left": n.Left, "Cond": len(n.Cond.Nodes) > 0, "Keys": len(n.Keys) > 0,
		"Aggs": len(n.Aggs) > 0, "Items": len(n.Items) > 0, "Order": len(n.Order) > 0, "Limit": n.Limit != 0,
	}
	for field, is := range filled {
		if is && !slices.Contains(fields, field) {
			return false
		}
	}
	return true
}

// isTruthByRule tells whether a condition may stand over kinds.
func isTruthByRule(cond api.Expr, kinds []int) bool {
	k, e := expr.Kind(cond, kinds)
	return e == api.OK && (k == api.VNull || k == api.VBool)
}

// aggByRule is the kind that an aggregate comes to; -1, if it may not be.
func aggByRule(a api.Agg, kinds []int) int {
	if a.Tag == api.AggAll && len(a.Arg.Nodes) == 0 {
		return api.VInt
	}
	k, e := expr.Kind(a.Arg, kinds)
	switch {
	case e != api.OK || a.Tag < api.AggCount || a.Tag > api.AggMax:
		return -1
	case a.Tag == api.AggSum && (k == api.VBool || k == api.VText):
		return -1
	case a.Tag == api.AggMin || a.Tag == api.AggMax:
		return k
	}
	return api.VInt
}

// ofOneByRule are the kinds of a node of one part, of so many nodes behind it.
func ofOneByRule(n api.LNode, a []int, behind int) (kinds []int, ok bool) {
	ok = true
	switch n.Op {
	case api.LFilter:
		return a, bare(n, "Cond") && isTruthByRule(n.Cond, a)
	case api.LGroup:
		for _, k := range n.Keys {
			if k < 0 || k >= len(a) {
				return nil, false
			}
			kinds = append(kinds, a[k])
		}
		for _, g := range n.Aggs {
			k := aggByRule(g, a)
			ok = ok && k >= 0
			kinds = append(kinds, k)
		}
		return kinds, ok && bare(n, "Keys", "Aggs") && len(n.Keys) <= 3 && len(n.Aggs) <= 12 && len(kinds) > 0
	case api.LProject:
		for _, item := range n.Items {
			k, e := expr.Kind(item, a)
			ok = ok && e == api.OK
			kinds = append(kinds, k)
		}
		return kinds, ok && bare(n, "Items") && 1 <= len(kinds) && len(kinds) <= 16
	case api.LSort:
		for _, o := range n.Order {
			ok = ok && 0 <= o.Col && o.Col < len(a)
		}
		return a, ok && bare(n, "Order", "Limit") && len(n.Order) <= 3 && -1 <= n.Limit && n.Limit <= 1<<31-1 && behind == 0
	}
	return a, bare(n)
}

// ofTwoByRule are the kinds of a node of two parts.
func ofTwoByRule(n api.LNode, a, b []int) ([]int, bool) {
	if n.Op == api.LJoin {
		both := slices.Concat(a, b)
		return both, bare(n, "Left", "Cond") && len(both) <= 16 && isTruthByRule(n.Cond, both)
	}
	if len(a) != len(b) {
		return nil, false
	}
	var kinds []int
	for k := range a {
		if a[k] != b[k] && a[k]*b[k] != 0 {
			return nil, false
		}
		kinds = append(kinds, max(a[k], b[k]))
	}
	return kinds, bare(n)
}

func isScanByRule(n api.LNode) bool {
	for _, k := range n.Kinds {
		if k < 1 || k > 3 {
			return false
		}
	}
	return bare(n, "Table", "Kinds") && 0 <= n.Table && n.Table <= 3 && 1 <= len(n.Kinds) && len(n.Kinds) <= 4
}

// ruled reckons the kinds of each node's columns, or the place of the first node with which a tree may not be: apart from the program, each node's order from itself down.
func ruled(l api.Logic) (kinds [][]int, place int, ok bool) {
	if len(l.Nodes) == 0 || len(l.Nodes) > 60 {
		return nil, 0, false
	}
	last := len(l.Nodes) - 1
	for place, n := range l.Nodes {
		count := countByRule(l.Nodes, place)
		var own []int
		var may bool
		switch {
		case count == 0 || place == last && count != len(l.Nodes):
		case partsByRule[n.Op] == 0:
			own, may = n.Kinds, isScanByRule(n)
		case partsByRule[n.Op] == 1:
			own, may = ofOneByRule(n, kinds[n.A], last-place)
		default:
			own, may = ofTwoByRule(n, kinds[n.A], kinds[n.B])
		}
		if !may {
			return nil, place, false
		}
		kinds = append(kinds, own)
	}
	return kinds, 0, true
}

// belowByRule is the tree whose root is the node of a place, reckoned from that down.
func belowByRule(l api.Logic, place int) api.Logic {
	n := l.Nodes[place]
	switch {
	case n.A < 0:
		return nodes(n)
	case n.B < 0:
		return tree(n, belowByRule(l, n.A))
	}
	return tree(n, belowByRule(l, n.A), belowByRule(l, n.B))
}
