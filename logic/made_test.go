package logic_test

import (
	"math"
	"slices"
	"strings"

	"bowsprit/api"
)

// Values, expressions, nodes and trees are made without the program.
var (
	null = api.Value{}
	no   = api.Value{Kind: api.VBool}
	yes  = api.Value{Kind: api.VBool, N: 1}
)

func number(n int64) api.Value {
	return api.Value{Kind: api.VInt, N: n}
}

func text(s string) api.Value {
	return api.Value{Kind: api.VText, S: s}
}

// valueOf is a value of each kind, the kinds' numbers being its places.
var valueOf = []api.Value{null, yes, number(5), text("a")}

func exprOf(l ...api.ENode) api.Expr {
	return api.Expr{Nodes: l}
}

func lit(v api.Value) api.Expr {
	return exprOf(api.ENode{Tag: api.NLit, L: -1, R: -1, Value: v})
}

func num(n int64) api.Expr {
	return lit(number(n))
}

func col(n int) api.Expr {
	return exprOf(api.ENode{Tag: api.ECol, L: -1, R: -1, Col: n})
}

// on is the expression of a tag over one part, or two.
func on(tag int, parts ...api.Expr) api.Expr {
	root := api.ENode{Tag: tag, L: -1, R: -1}
	var l []api.ENode
	for k, p := range parts {
		by := len(l)
		for _, n := range p.Nodes {
			if n.L >= 0 {
				n.L += by
			}
			if n.R >= 0 {
				n.R += by
			}
			l = append(l, n)
		}
		if k == 0 {
			root.L = len(l) - 1
		} else {
			root.R = len(l) - 1
		}
	}
	return exprOf(append(l, root)...)
}

// noExprs are expressions that may not be.
func noExprs() []api.Expr {
	return []api.Expr{
		{Nodes: []api.ENode{}},
		exprOf(api.ENode{}),
		exprOf(api.ENode{Tag: api.NCountAll, L: -1, R: -1}),
		exprOf(api.ENode{Tag: api.NNot, L: -1, R: -1}),
		exprOf(api.ENode{Tag: api.ECol, R: -1}),
		exprOf(api.ENode{Tag: api.NLit, L: -1, R: -1, Col: 1}),
		exprOf(api.ENode{Tag: api.NLit, L: -1, R: -1, Value: api.Value{Kind: api.VSum}}),
		{Nodes: slices.Concat(lit(yes).Nodes, lit(yes).Nodes)},
		col(-1), col(api.MaxWidth), col(math.MaxInt), col(math.MinInt),
		lit(text(strings.Repeat("x", api.MaxText+1))),
		{Nodes: slices.Repeat(lit(yes).Nodes, api.MaxExpr+1)},
		{Nodes: make([]api.ENode, 1<<16)},
	}
}

// noKinds are expressions that have no kind, over whatever columns.
func noKinds() []api.Expr {
	return []api.Expr{
		on(api.NAdd, num(1), lit(text("a"))), on(api.NNeg, lit(yes)), on(api.NNot, num(1)), on(api.NEq, num(1), lit(yes)),
		on(api.NAnd, lit(yes), num(1)), on(api.NIsNull, on(api.NNeg, lit(text("a")))), on(api.NOr, on(api.NLt, num(1), lit(yes)), lit(yes)),
	}
}

func agg(tag int, arg ...api.Expr) api.Agg {
	a := api.Agg{Tag: tag}
	for _, x := range arg {
		a.Arg = x
	}
	return a
}

func scan(table int, kinds ...int) api.LNode {
	return api.LNode{Op: api.LScan, A: -1, B: -1, Table: table, Kinds: kinds}
}

// The nodes of operators that have parts; of their places nothing is said yet.
func join(cond api.Expr) api.LNode {
	return api.LNode{Op: api.LJoin, Cond: cond}
}

func leftJoin(cond api.Expr) api.LNode {
	return api.LNode{Op: api.LJoin, Left: true, Cond: cond}
}

func filter(cond api.Expr) api.LNode {
	return api.LNode{Op: api.LFilter, Cond: cond}
}

func group(keys []int, aggs ...api.Agg) api.LNode {
	return api.LNode{Op: api.LGroup, Keys: keys, Aggs: aggs}
}

func project(items ...api.Expr) api.LNode {
	return api.LNode{Op: api.LProject, Items: items}
}

func distinct() api.LNode {
	return api.LNode{Op: api.LDistinct}
}

func union() api.LNode {
	return api.LNode{Op: api.LUnion}
}

func sortBy(limit int, order ...api.Ord) api.LNode {
	return api.LNode{Op: api.LSort, Order: order, Limit: limit}
}

// nodes are nodes as they are, the last one the root.
func nodes(l ...api.LNode) api.Logic {
	return api.Logic{Nodes: l}
}

// at is a node whose parts stand at places.
func at(n api.LNode, a, b int) api.LNode {
	n.A, n.B = a, b
	return n
}

// tree is that of a root over parts, be they such as it wants or not.
func tree(root api.LNode, parts ...api.Logic) api.Logic {
	var l []api.LNode
	places := [2]int{-1, -1}
	for k, p := range parts {
		by := len(l)
		for _, n := range p.Nodes {
			if n.A >= 0 {
				n.A += by
			}
			if n.B >= 0 {
				n.B += by
			}
			l = append(l, n)
		}
		places[k] = len(l) - 1
	}
	return nodes(append(l, at(root, places[0], places[1]))...)
}

func table(number int, kinds ...int) api.Logic {
	return tree(scan(number, kinds...))
}

// tableT is the chapter's own table.
func tableT() api.Logic {
	return table(0, api.VInt, api.VText)
}

// columnsOf is a tree that has columns of kinds, VNull among them, as many as are wanted.
func columnsOf(kinds ...int) api.Logic {
	var items []api.Expr
	for _, k := range kinds {
		items = append(items, lit(valueOf[k]))
	}
	return tree(project(items...), tableT())
}

// wide is a tree of as many columns of VInt.
func wide(count int) api.Logic {
	return columnsOf(slices.Repeat([]int{api.VInt}, count)...)
}

// chain is a tree of as many nodes, one above the other.
func chain(count int) api.Logic {
	l := tableT()
	for len(l.Nodes) < count {
		l = tree(distinct(), l)
	}
	return l
}

// bushy is a tree of as many nodes, as flat as it can be.
func bushy(count int) api.Logic {
	switch count {
	case 1:
		return tableT()
	case 2:
		return tree(distinct(), tableT())
	}
	half := (count - 1) / 2
	return tree(union(), bushy(half), bushy(count-1-half))
}

// leaning is a tree of an odd count of nodes, whose unions lean to one side.
func leaning(count int, left bool) api.Logic {
	l := tableT()
	for len(l.Nodes) < count {
		if left {
			l = tree(union(), l, tableT())
		} else {
			l = tree(union(), tableT(), l)
		}
	}
	return l
}

// great are trees of as many nodes as there may be, or near it, of all forms.
func great() []api.Logic {
	return []api.Logic{chain(api.MaxLogic), bushy(api.MaxLogic), leaning(api.MaxLogic-1, true), leaning(api.MaxLogic-1, false), tree(sortBy(-1), bushy(api.MaxLogic-1))}
}

// each is a tree whose root is of each of the operators.
func each() []api.Logic {
	return []api.Logic{
		tableT(),
		tree(join(lit(yes)), tableT(), tableT()),
		tree(leftJoin(on(api.NEq, col(0), col(2))), tableT(), tableT()),
		tree(filter(on(api.NGt, col(0), num(1))), tableT()),
		tree(group([]int{1}, agg(api.AggAll), agg(api.AggMin, col(0))), tableT()),
		tree(project(col(1), on(api.NAdd, col(0), num(1))), tableT()),
		tree(distinct(), tableT()),
		tree(union(), tableT(), tableT()),
		tree(sortBy(5, api.Ord{Col: 1, Desc: true}, api.Ord{Col: 0}), tableT()),
	}
}
