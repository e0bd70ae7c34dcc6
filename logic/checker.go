package logic

import (
	"iter"
	"slices"

	"bowsprit/api"
	"bowsprit/expr"
)

// within tells whether a number stands from least to most.
func within(n, least, most int) bool {
	return least <= n && n <= most
}

// partsOf is how many parts an operator has; none of what is no operator, either.
func partsOf(op int) int {
	switch op {
	case api.LJoin, api.LUnion:
		return 2
	case api.LFilter, api.LGroup, api.LProject, api.LDistinct, api.LSort:
		return 1
	}
	return 0
}

// loose are the places of nodes that are nobody's part yet.
type loose []int

// take adds a node's place, and tells those of its parts: in a tree's order these are the last ones that are nobody's yet. Nothing is taken, if there are too few.
func (l *loose) take(op, place int) (parts [2]int, there bool) {
	rest := len(*l) - partsOf(op)
	if rest < 0 {
		return parts, false
	}
	parts = [...]int{-1, -1}
	copy(parts[:], (*l)[rest:])
	*l = append((*l)[:rest], place)
	return parts, true
}

// counting is a node with nothing but what counts of its Op, and its parts.
func counting(n api.LNode) api.LNode {
	c := api.LNode{Op: n.Op, A: n.A, B: n.B}
	switch n.Op {
	case api.LScan:
		c.Table, c.Kinds = n.Table, n.Kinds
	case api.LJoin:
		c.Left, c.Cond = n.Left, n.Cond
	case api.LFilter:
		c.Cond = n.Cond
	case api.LGroup:
		c.Keys, c.Aggs = n.Keys, n.Aggs
	case api.LProject:
		c.Items = n.Items
	case api.LSort:
		c.Order, c.Limit = n.Order, n.Limit
	}
	return c
}

// checker is a tree whose nodes are asked in their order.
type checker struct {
	api.Logic
	loose loose
	kinds [][]int // of the columns of each node that was asked
}

// columns goes over a tree's nodes, and tells of each one's place the kinds of its columns. The first node with which the tree may not be has none, and none is told behind it.
func columns(l api.Logic) iter.Seq2[int, []int] {
	return func(yield func(int, []int) bool) {
		c := checker{Logic: l}
		asks := c.asks()
		for place, n := range c.Nodes {
			var kinds []int
			if ask, known := asks[n.Op]; known && c.stands(place) && sameNode(n, counting(n)) {
				kinds = ask(n)
			}
			if len(kinds) > api.MaxWidth {
				kinds = nil
			}
			c.kinds = append(c.kinds, kinds)
			if !yield(place, kinds) || len(kinds) == 0 {
				return
			}
		}
	}
}

// stands tells whether a node is where the order of a tree has it: its parts are the last ones that are nobody's yet; none but the root is left as nobody's in the end; a sort is just that root.
func (c *checker) stands(place int) bool {
	n := c.Nodes[place]
	parts, there := c.loose.take(n.Op, place)
	if !there || parts != [2]int{n.A, n.B} {
		return false
	}
	if place == len(c.Nodes)-1 {
		return len(c.loose) == 1
	}
	return n.Op != api.LSort
}

// asks are what Ops ask of their nodes, whose parts are known: the kinds of the columns that come of it; none, if it may not be.
func (c *checker) asks() map[int]func(api.LNode) []int {
	return map[int]func(api.LNode) []int{
		api.LScan:     c.scan,
		api.LJoin:     c.join,
		api.LFilter:   c.filter,
		api.LGroup:    c.group,
		api.LProject:  c.project,
		api.LDistinct: c.distinct,
		api.LUnion:    c.union,
		api.LSort:     c.sort,
	}
}

// noKind tells of what is none of the kinds that a table's column may be of.
func noKind(kind int) bool {
	return !within(kind, api.VBool, api.VText)
}

func (c *checker) scan(n api.LNode) []int {
	if !within(n.Table, 0, api.MaxTables-1) || len(n.Kinds) > api.MaxColumns || slices.ContainsFunc(n.Kinds, noKind) {
		return nil
	}
	return n.Kinds
}

func (c *checker) join(n api.LNode) []int {
	return under(n.Cond, slices.Concat(c.kinds[n.A], c.kinds[n.B]))
}

func (c *checker) filter(n api.LNode) []int {
	return under(n.Cond, c.kinds[n.A])
}

// under are the kinds of columns, if a condition is a truth or null over these.
func under(cond api.Expr, kinds []int) []int {
	kind, e := expr.Kind(cond, kinds)
	if e != api.OK || kind != api.VBool && kind != api.VNull {
		return nil
	}
	return kinds
}

func (c *checker) group(n api.LNode) []int {
	over := c.kinds[n.A]
	if len(n.Keys) > api.MaxNames || len(n.Aggs) > api.MaxAggs {
		return nil
	}
	var kinds []int
	for _, k := range n.Keys {
		if !within(k, 0, len(over)-1) {
			return nil
		}
		kinds = append(kinds, over[k])
	}
	for _, a := range n.Aggs {
		kind, ok := aggregated(a, over)
		if !ok {
			return nil
		}
		kinds = append(kinds, kind)
	}
	return kinds
}

// aggregated is the kind of what an aggregate comes to, if it may be over columns of kinds.
func aggregated(a api.Agg, over []int) (int, bool) {
	if a.Tag == api.AggAll {
		return api.VInt, len(a.Arg.Nodes) == 0
	}
	kind, e := expr.Kind(a.Arg, over)
	if e != api.OK {
		return 0, false
	}
	switch a.Tag {
	case api.AggCount:
		return api.VInt, true
	case api.AggSum:
		return api.VInt, kind == api.VInt || kind == api.VNull
	case api.AggMin, api.AggMax:
		return kind, true
	}
	return 0, false
}

func (c *checker) project(n api.LNode) []int {
	if len(n.Items) > api.MaxWidth {
		return nil
	}
	var kinds []int
	for _, item := range n.Items {
		kind, e := expr.Kind(item, c.kinds[n.A])
		if e != api.OK {
			return nil
		}
		kinds = append(kinds, kind)
	}
	return kinds
}

func (c *checker) distinct(n api.LNode) []int {
	return c.kinds[n.A]
}

func (c *checker) union(n api.LNode) []int {
	kinds, others := slices.Clone(c.kinds[n.A]), c.kinds[n.B]
	if len(kinds) != len(others) {
		return nil
	}
	for column, kind := range others {
		switch {
		case kinds[column] == api.VNull:
			kinds[column] = kind
		case kind != kinds[column] && kind != api.VNull:
			return nil
		}
	}
	return kinds
}

func (c *checker) sort(n api.LNode) []int {
	over := c.kinds[n.A]
	if len(n.Order) > api.MaxKeys || !within(n.Limit, -1, api.MaxNumber) {
		return nil
	}
	for _, o := range n.Order {
		if !within(o.Col, 0, len(over)-1) {
			return nil
		}
	}
	return over
}
