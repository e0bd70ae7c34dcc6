package rewrite_test

import (
	"slices"

	"bowsprit/api"
)

// What trees are rewritten to, reckoned apart from the program, and from the layers below it: at the first node of which a rule holds that one is done, and all nodes are gone through again from the first one on.

// exprParts is how many parts a tag has.
func exprParts(tag int) int {
	switch {
	case tag == api.NLit || tag == api.ECol:
		return 0
	case tag == api.NNeg || tag == api.NNot || tag == api.NIsNull || tag == api.NNotNull:
		return 1
	}
	return 2
}

// opParts is how many parts an operator has.
func opParts(op int) int {
	switch op {
	case api.LScan:
		return 0
	case api.LJoin, api.LUnion:
		return 2
	}
	return 1
}

// firstOf is the place of the first node of the part whose root is at a place: going back, each node wants its parts, and is one itself.
func firstOf(place int, parts func(place int) int) int {
	for want := 1; ; place-- {
		if want += parts(place) - 1; want == 0 {
			return place
		}
	}
}

// placed tells each node's parts, going by how many each has.
func placed(count int, parts func(place int) int, put func(place, a, b int)) {
	var open []int
	for place := range count {
		rest := len(open) - parts(place)
		of := append(open[rest:len(open):len(open)], -1, -1)
		put(place, of[0], of[1])
		open = append(open[:rest], place)
	}
}

func exprOfNodes(nodes []api.ENode) api.Expr {
	nodes = slices.Clone(nodes)
	placed(len(nodes), func(k int) int { return exprParts(nodes[k].Tag) }, func(k, a, b int) { nodes[k].L, nodes[k].R = a, b })
	return api.Expr{Nodes: nodes}
}

func treeOfNodes(nodes []api.LNode) api.Logic {
	nodes = slices.Clone(nodes)
	placed(len(nodes), func(k int) int { return opParts(nodes[k].Op) }, func(k, a, b int) { nodes[k].A, nodes[k].B = a, b })
	return api.Logic{Nodes: nodes}
}

// partByRule is the tree whose root is at a place.
func partByRule(l api.Logic, place int) api.Logic {
	first := firstOf(place, func(k int) int { return opParts(l.Nodes[k].Op) })
	return treeOfNodes(l.Nodes[first : place+1])
}

func safeByRule(x api.Expr) bool {
	for _, n := range x.Nodes {
		switch n.Tag {
		case api.NNeg, api.NAdd, api.NSub, api.NMul, api.NDiv:
			return false
		}
	}
	return true
}

// andsByRule takes the last And off from behind, as long as there is one.
func andsByRule(x api.Expr) []api.Expr {
	last := len(x.Nodes) - 1
	if x.Nodes[last].Tag != api.NAnd {
		return []api.Expr{x}
	}
	first := firstOf(last-1, func(k int) int { return exprParts(x.Nodes[k].Tag) })
	return append(andsByRule(exprOfNodes(x.Nodes[:first])), andsByRule(exprOfNodes(x.Nodes[first:last]))...)
}

// putByRule has an expression in the place of each column.
func putByRule(x api.Expr, of func(column int) api.Expr) api.Expr {
	var nodes []api.ENode
	for _, n := range x.Nodes {
		if n.Tag == api.ECol {
			nodes = append(nodes, of(n.Col).Nodes...)
		} else {
			nodes = append(nodes, n)
		}
	}
	return exprOfNodes(nodes)
}

// sidesByRule counts of each And how many of its columns are A's, and how many are not.
func sidesByRule(cond api.Expr, left int, outer bool) (sides [3][]api.Expr) {
	for _, and := range andsByRule(cond) {
		ofA, ofB := 0, 0
		for _, n := range and.Nodes {
			switch {
			case n.Tag == api.ECol && n.Col < left:
				ofA++
			case n.Tag == api.ECol:
				ofB++
			}
		}
		switch {
		case ofB == 0:
			sides[0] = append(sides[0], and)
		case ofA == 0 && !outer:
			sides[1] = append(sides[1], putByRule(and, func(c int) api.Expr { return col(c - left) }))
		default:
			sides[2] = append(sides[2], and)
		}
	}
	return sides
}

// widthByRule is how many columns a tree has.
func widthByRule(l api.Logic) int {
	switch n := l.Nodes[len(l.Nodes)-1]; n.Op {
	case api.LScan:
		return len(n.Kinds)
	case api.LJoin:
		return widthByRule(partByRule(l, n.A)) + widthByRule(partByRule(l, n.B))
	case api.LGroup:
		return len(n.Keys) + len(n.Aggs)
	case api.LProject:
		return len(n.Items)
	default:
		return widthByRule(partByRule(l, n.A))
	}
}

func belowFilter(l api.Logic, ands []api.Expr) api.Logic {
	if len(ands) == 0 {
		return l
	}
	return tree(filter(all(ands...)), l)
}

// filterByRule is the rule that holds of a filter, its number, and what it makes.
func filterByRule(root, below api.LNode, a api.Logic, part func(place int) api.Logic) (int, api.Logic) {
	switch {
	case same(root.Cond, lit(yes)):
		return 1, a
	case !safeByRule(root.Cond):
		return 0, api.Logic{}
	case below.Op == api.LFilter && len(below.Cond.Nodes)+len(root.Cond.Nodes) < api.MaxExpr:
		return 2, tree(filter(all(below.Cond, root.Cond)), part(below.A))
	case below.Op == api.LJoin && safeByRule(below.Cond):
		left, right := part(below.A), part(below.B)
		sides := sidesByRule(root.Cond, widthByRule(left), below.Left)
		if len(sides[0])+len(sides[1]) > 0 {
			return 3, belowFilter(tree(below, belowFilter(left, sides[0]), belowFilter(right, sides[1])), sides[2])
		}
	}
	return 0, api.Logic{}
}

// projectByRule is rule 4, if it holds.
func projectByRule(root, below api.LNode, part func(place int) api.Logic) (int, api.Logic) {
	made := project()
	for _, x := range below.Items {
		if !safeByRule(x) {
			return 0, api.Logic{}
		}
	}
	for _, x := range root.Items {
		x = putByRule(x, func(c int) api.Expr { return below.Items[c] })
		if len(x.Nodes) > api.MaxExpr {
			return 0, api.Logic{}
		}
		made.Items = append(made.Items, x)
	}
	return 4, tree(made, part(below.A))
}

// keysByRule tells whether a project has each key of the group below it, or below a filter below it.
func keysByRule(l api.Logic, n api.LNode) bool {
	g := l.Nodes[n.A]
	if g.Op == api.LFilter {
		g = l.Nodes[g.A]
	}
	if g.Op != api.LGroup {
		return false
	}
	there := map[int]bool{}
	for _, x := range n.Items {
		if len(x.Nodes) == 1 && x.Nodes[0].Tag == api.ECol && x.Nodes[0].Col < len(g.Keys) {
			there[x.Nodes[0].Col] = true
		}
	}
	return len(there) == len(g.Keys)
}

// oneByRule is the number of the first rule that holds of a root (0: none), and what it makes.
func oneByRule(l api.Logic) (int, api.Logic) {
	root := l.Nodes[len(l.Nodes)-1]
	if root.A < 0 {
		return 0, api.Logic{}
	}
	part := func(place int) api.Logic { return partByRule(l, place) }
	below := l.Nodes[root.A]
	switch {
	case root.Op == api.LFilter:
		return filterByRule(root, below, part(root.A), part)
	case root.Op == api.LProject && below.Op == api.LProject:
		return projectByRule(root, below, part)
	case root.Op == api.LDistinct && below.Op == api.LDistinct:
		return 5, part(root.A)
	case root.Op == api.LDistinct && below.Op == api.LProject && keysByRule(l, below):
		return 6, part(root.A)
	}
	return 0, api.Logic{}
}

// byRule is what a tree is rewritten to, how often each rule was done, and whether it was never too long.
func byRule(l api.Logic) (api.Logic, [7]int, bool) {
	var done [7]int
	now := l
again:
	for {
		for place := range now.Nodes {
			p := partByRule(now, place)
			number, made := oneByRule(p)
			if len(p.Nodes) > api.MaxLogic || len(made.Nodes) > api.MaxLogic {
				return l, done, false
			}
			if number > 0 {
				done[number]++
				now = treeOfNodes(slices.Concat(now.Nodes[:place+1-len(p.Nodes)], made.Nodes, now.Nodes[place+1:]))
				continue again
			}
		}
		return now, done, true
	}
}
