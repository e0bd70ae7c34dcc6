package prop

import (
	"slices"

	"bowsprit/api"
	"bowsprit/logic"
)

// within tells whether a number stands from least to most.
func within(n, least, most int) bool {
	return least <= n && n <= most
}

// partsOf is how many parts an operator has; none of what is no operator, either.
func partsOf(op int) int {
	switch op {
	case api.LJoin, api.LUnion:
		return 2
	case api.LFilter, api.LGroup, api.LProject, api.LDistinct, api.LSort, api.LPartial, api.LFinal:
		return 1
	}
	return 0
}

// asker is a fragment's nodes, which are asked in their order.
type asker struct {
	nodes  []api.LNode
	begins []int   // the place of the first node that stands below each one that was asked, or is it
	kinds  [][]int // of the columns of each node that was asked
}

// asks are what Ops ask of a node whose parts are known: the kinds of the columns that come of it; none, if it may not be.
func asks() map[int]func(asker, api.LNode) []int {
	return map[int]func(asker, api.LNode) []int{
		api.LScan:     asker.leaf,
		api.LJoin:     asker.two,
		api.LFilter:   asker.one,
		api.LGroup:    asker.one,
		api.LProject:  asker.one,
		api.LDistinct: asker.one,
		api.LUnion:    asker.two,
		api.LSort:     asker.one,
		api.LInput:    asker.input,
		api.LPartial:  asker.partial,
		api.LFinal:    asker.final,
	}
}

// Kinds: P18.1.
func Kinds(nodes []api.LNode) ([][]int, int, api.Errno) {
	if !within(len(nodes), 1, api.MaxSteps) {
		return nil, 0, api.ErrFrag
	}
	a, asks := asker{nodes: nodes}, asks()
	for place, n := range nodes {
		var kinds []int
		if ask, known := asks[n.Op]; known && a.stands(place) {
			kinds = ask(a, n)
		}
		if len(kinds) == 0 {
			return nil, place, api.ErrFrag
		}
		a.kinds = append(a.kinds, kinds)
	}
	return a.kinds, 0, api.OK
}

// stands tells whether a node is where the order of a tree has it: its last part just ahead of it, the part ahead of that one just ahead of where what stands below that one begins; at the end nothing ahead of all that. What may be just the root is at the end.
func (a *asker) stands(place int) bool {
	n := a.nodes[place]
	begin, parts := place, [2]int{-1, -1}
	for k := partsOf(n.Op) - 1; k >= 0; k-- {
		if begin == 0 {
			return false
		}
		parts[k] = begin - 1
		begin = a.begins[begin-1]
	}
	a.begins = append(a.begins, begin)
	if parts != [2]int{n.A, n.B} {
		return false
	}
	if place == len(a.nodes)-1 {
		return begin == 0
	}
	return n.Op != api.LSort && n.Op != api.LPartial
}

// projected are a scan and a projection of it, which has columns of kinds.
func projected(kinds []int, place int) []api.LNode {
	scan := api.LNode{Op: api.LScan, A: -1, B: -1, Kinds: []int{api.VBool, api.VInt, api.VText}}
	project := api.LNode{Op: api.LProject, A: place, B: -1}
	for _, kind := range kinds {
		item := api.ENode{Tag: api.ECol, L: -1, R: -1, Col: kind - api.VBool}
		if kind == api.VNull {
			item = api.ENode{Tag: api.NLit, L: -1, R: -1}
		}
		project.Items = append(project.Items, api.Expr{Nodes: []api.ENode{item}})
	}
	return []api.LNode{scan, project}
}

// ofTree is what an Op of trees asks: the same as in a tree, over parts that have such columns. None has a column of VSum there, and so nothing of theirs may stand over one.
func ofTree(n api.LNode, parts ...[]int) []int {
	var l api.Logic
	places := [2]int{-1, -1}
	for k, kinds := range parts {
		if slices.Contains(kinds, api.VSum) {
			return nil
		}
		l.Nodes = append(l.Nodes, projected(kinds, len(l.Nodes))...)
		places[k] = len(l.Nodes) - 1
	}
	n.A, n.B = places[0], places[1]
	l.Nodes = append(l.Nodes, n)
	kinds, _ := logic.Kinds(l)
	return kinds
}

func (a asker) leaf(n api.LNode) []int {
	return ofTree(n)
}

func (a asker) one(n api.LNode) []int {
	return ofTree(n, a.kinds[n.A])
}

func (a asker) two(n api.LNode) []int {
	return ofTree(n, a.kinds[n.A], a.kinds[n.B])
}

// isNode tells whether a node is the same as one that has just what counts of it.
func isNode(n, counting api.LNode) bool {
	counting.Op, counting.A, counting.B = n.Op, n.A, n.B
	return logic.Same(api.Logic{Nodes: []api.LNode{n}}, api.Logic{Nodes: []api.LNode{counting}})
}

func noKind(kind int) bool {
	return !within(kind, api.VNull, api.VSum)
}

func (a asker) input(n api.LNode) []int {
	if !isNode(n, api.LNode{Table: n.Table, Kinds: n.Kinds}) || !within(n.Table, 0, api.MaxFrags-1) {
		return nil
	}
	if len(n.Kinds) > api.MaxWidth || slices.ContainsFunc(n.Kinds, noKind) {
		return nil
	}
	return slices.Clone(n.Kinds)
}

// partial asks what an LGroup does; but its sums are under way.
func (a asker) partial(n api.LNode) []int {
	n.Op = api.LGroup
	kinds := a.one(n)
	if len(kinds) == 0 {
		return nil
	}
	for k, g := range n.Aggs {
		if g.Tag == api.AggSum {
			kinds[len(n.Keys)+k] = api.VSum
		}
	}
	return kinds
}

func (a asker) final(n api.LNode) []int {
	over := a.kinds[n.A]
	if !isNode(n, api.LNode{Keys: n.Keys, Aggs: n.Aggs}) || a.nodes[n.A].Op != api.LInput {
		return nil
	}
	if len(n.Keys) > api.MaxNames || len(n.Aggs) > api.MaxAggs || len(n.Keys)+len(n.Aggs) != len(over) {
		return nil
	}
	var kinds []int
	for k, key := range n.Keys {
		if key != k || over[k] == api.VSum {
			return nil
		}
		kinds = append(kinds, over[k])
	}
	for _, g := range n.Aggs {
		kind, ok := ended(g, over[len(kinds)])
		if !ok {
			return nil
		}
		kinds = append(kinds, kind)
	}
	return kinds
}

// ended is the kind of what an aggregate comes to in the end, if it may be one of parts of that kind.
func ended(g api.Agg, part int) (int, bool) {
	if len(g.Arg.Nodes) > 0 {
		return 0, false
	}
	switch g.Tag {
	case api.AggAll, api.AggCount:
		return api.VInt, part == api.VInt
	case api.AggSum:
		return api.VInt, part == api.VSum
	case api.AggMin, api.AggMax:
		return part, part != api.VSum
	}
	return 0, false
}
