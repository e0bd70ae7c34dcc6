package expr

import (
	"slices"

	"bowsprit/api"
)

// mayFault tells of tags whose deeds there are no numbers for at times.
func mayFault(n api.ENode) bool {
	return n.Tag == api.NNeg || api.NAdd <= n.Tag && n.Tag <= api.NDiv
}

// Safe: P10.5.
func Safe(e api.Expr) bool {
	return isExpr(e) && !slices.ContainsFunc(e.Nodes, mayFault)
}

// Cols: P10.5.
func Cols(e api.Expr) []int {
	if !isExpr(e) {
		return nil
	}
	var cols []int
	for _, n := range e.Nodes {
		if n.Tag == api.ECol {
			cols = append(cols, n.Col)
		}
	}
	slices.Sort(cols)
	return slices.Compact(cols)
}

// part is the expression whose root is the node of a place. What stands below that one begins where going down to the left ends.
func part(e api.Expr, place int) api.Expr {
	begin := place
	for e.Nodes[begin].L >= 0 {
		begin = e.Nodes[begin].L
	}
	return laid(e.Nodes[begin : place+1])
}

// Ands: P10.6.
func Ands(e api.Expr) []api.Expr {
	if !isExpr(e) {
		return nil
	}
	var ands []api.Expr
	var take func(place int)
	take = func(place int) {
		n := e.Nodes[place]
		if n.Tag != api.NAnd {
			ands = append(ands, part(e, place))
			return
		}
		take(n.L)
		take(n.R)
	}
	take(len(e.Nodes) - 1)
	return ands
}

// together is nodes in a tree's order as an expression, if they are not too many. They are counted ahead of being laid: many lists may be far too long for that.
func together(lists ...[]api.ENode) (api.Expr, api.Errno) {
	count := 0
	for _, l := range lists {
		count += len(l)
	}
	if count > api.MaxExpr {
		return api.Expr{}, api.ErrLong
	}
	return laid(lists...), api.OK
}

// All (P10.6) has each NAnd just behind what it joins to all that is ahead.
func All(l []api.Expr) (api.Expr, api.Errno) {
	if !areExprs(l) {
		return api.Expr{}, api.ErrExpr
	}
	if len(l) == 0 {
		return api.Expr{}, api.ErrArg
	}
	and := []api.ENode{{Tag: api.NAnd}}
	lists := [][]api.ENode{l[0].Nodes}
	for _, next := range l[1:] {
		lists = append(lists, next.Nodes, and)
	}
	return together(lists...)
}

// Put: P10.7.
func Put(e api.Expr, l []api.Expr) (api.Expr, api.Errno) {
	if !isExpr(e) || !areExprs(l) {
		return api.Expr{}, api.ErrExpr
	}
	if !eachColumn(e, func(c int) bool { return c < len(l) }) {
		return api.Expr{}, api.ErrArg
	}
	var lists [][]api.ENode
	for place, n := range e.Nodes {
		if n.Tag == api.ECol {
			lists = append(lists, l[n.Col].Nodes)
		} else {
			lists = append(lists, e.Nodes[place:place+1])
		}
	}
	return together(lists...)
}

// Shift (P10.7) has no fear of by: what goes round comes far from where columns are.
func Shift(e api.Expr, by int) (api.Expr, api.Errno) {
	if !isExpr(e) {
		return api.Expr{}, api.ErrExpr
	}
	if !eachColumn(e, func(c int) bool { return isColumn(c + by) }) {
		return api.Expr{}, api.ErrArg
	}
	nodes := slices.Clone(e.Nodes)
	for place, n := range nodes {
		if n.Tag == api.ECol {
			nodes[place].Col += by
		}
	}
	return api.Expr{Nodes: nodes}, api.OK
}

// Pair (P10.8) needs no look at the parts: three nodes that have two columns, each of another number, are these two, and what is between them.
func Pair(e api.Expr, left int) (int, int, bool) {
	cols := Cols(e)
	if len(cols) != 2 || len(e.Nodes) != 3 || e.Nodes[2].Tag != api.NEq {
		return 0, 0, false
	}
	if cols[0] >= left || cols[1] < left {
		return 0, 0, false
	}
	return cols[0], cols[1] - left, true
}
