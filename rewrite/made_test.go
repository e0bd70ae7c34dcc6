package rewrite_test

import (
	"math"
	"slices"
	"strconv"
	"strings"

	"bowsprit/api"
)

// Values, rows, expressions, nodes and trees are made without the program.
var (
	null = api.Value{}
	no   = api.Value{Kind: api.VBool}
	yes  = api.Value{Kind: api.VBool, N: 1}
)

const (
	most  = math.MaxInt64
	least = math.MinInt64
)

func number(n int64) api.Value {
	return api.Value{Kind: api.VInt, N: n}
}

func text(s string) api.Value {
	return api.Value{Kind: api.VText, S: s}
}

// written is the value that a word writes.
func written(word string) api.Value {
	switch {
	case word == "NULL":
		return null
	case word == "FALSE":
		return no
	case word == "TRUE":
		return yes
	case word[0] == '\'':
		return text(word[1 : len(word)-1])
	}
	n, e := strconv.ParseInt(word, 10, 64)
	if e != nil {
		panic(word)
	}
	return number(n)
}

// list is rows as they are written: a stroke between each two of them, blanks between values.
func list(s string) []api.Row {
	var l []api.Row
	if s == "" {
		return l
	}
	for _, line := range strings.Split(s, "/") {
		r := api.Row{}
		for _, word := range strings.Fields(line) {
			r = append(r, written(word))
		}
		l = append(l, r)
	}
	return l
}

func base(tables ...[]api.Row) api.Base {
	return api.Base{Tables: tables}
}

func exprOf(l ...api.ENode) api.Expr {
	return api.Expr{Nodes: l}
}

func lit(v api.Value) api.Expr {
	return exprOf(api.ENode{Tag: api.NLit, L: -1, R: -1, Value: v})
}

func num(n int64) api.Expr {
	return lit(number(n))
}

func col(n int) api.Expr {
	return exprOf(api.ENode{Tag: api.ECol, L: -1, R: -1, Col: n})
}

// cols are columns alone, one behind the other.
func cols(numbers ...int) []api.Expr {
	var l []api.Expr
	for _, n := range numbers {
		l = append(l, col(n))
	}
	return l
}

// on is the expression of a tag over one part, or two.
func on(tag int, parts ...api.Expr) api.Expr {
	root := api.ENode{Tag: tag, L: -1, R: -1}
	var l []api.ENode
	for k, p := range parts {
		by := len(l)
		for _, n := range p.Nodes {
			if n.L >= 0 {
				n.L += by
			}
			if n.R >= 0 {
				n.R += by
			}
			l = append(l, n)
		}
		if k == 0 {
			root.L = len(l) - 1
		} else {
			root.R = len(l) - 1
		}
	}
	return exprOf(append(l, root)...)
}

// all joins expressions, the first one and the second, what comes of that and the third, and so on.
func all(l ...api.Expr) api.Expr {
	x := l[0]
	for _, next := range l[1:] {
		x = on(api.NAnd, x, next)
	}
	return x
}

// is holds of a row whose column is a number.
func is(column int, n int64) api.Expr {
	return on(api.NEq, col(column), num(n))
}

// eq holds of a row two of whose columns are alike.
func eq(a, b int) api.Expr {
	return on(api.NEq, col(a), col(b))
}

// bad is what faults where a column is a number, and else holds, or comes to null.
func bad(column int, n int64) api.Expr {
	return on(api.NGe, on(api.NDiv, num(0), on(api.NSub, col(column), num(n))), num(0))
}

// sized is a truth of so many nodes that has no NAnd; its columns are that one alone (or none, if it is below 0).
func sized(column, nodes int) api.Expr {
	x := lit(no)
	if column >= 0 && nodes > 1 {
		x = on(api.NIsNull, col(column))
	}
	for len(x.Nodes) < nodes {
		x = on(api.NNot, x)
	}
	return x
}

// noExprs are expressions that may not be.
func noExprs() []api.Expr {
	return []api.Expr{
		{},
		{Nodes: []api.ENode{}},
		exprOf(api.ENode{}),
		exprOf(api.ENode{Tag: api.NCountAll, L: -1, R: -1}),
		exprOf(api.ENode{Tag: api.NNot, L: -1, R: -1}),
		exprOf(api.ENode{Tag: api.NAnd, L: -1, R: -1}),
		exprOf(api.ENode{Tag: api.NAnd, L: 0, R: 0}),
		exprOf(api.ENode{Tag: api.NLit, L: -1, R: -1, Col: 1}),
		exprOf(api.ENode{Tag: api.NLit, L: -1, R: -1, Value: api.Value{Kind: api.VSum}}),
		exprOf(append(slices.Clone(lit(yes).Nodes), lit(yes).Nodes...)...),
		all(lit(yes), col(-1)), all(col(api.MaxWidth), lit(yes)), col(math.MaxInt), col(math.MinInt),
		lit(text(strings.Repeat("x", api.MaxText+1))),
		{Nodes: slices.Repeat(lit(yes).Nodes, api.MaxExpr+1)},
		sized(0, api.MaxExpr+1),
	}
}

func agg(tag int, arg ...api.Expr) api.Agg {
	a := api.Agg{Tag: tag}
	for _, x := range arg {
		a.Arg = x
	}
	return a
}

func scan(table int, kinds ...int) api.LNode {
	return api.LNode{Op: api.LScan, A: -1, B: -1, Table: table, Kinds: kinds}
}

func join(left bool, cond api.Expr) api.LNode {
	return api.LNode{Op: api.LJoin, Left: left, Cond: cond}
}

func filter(cond api.Expr) api.LNode {
	return api.LNode{Op: api.LFilter, Cond: cond}
}

func group(keys []int, aggs ...api.Agg) api.LNode {
	return api.LNode{Op: api.LGroup, Keys: keys, Aggs: aggs}
}

func project(items ...api.Expr) api.LNode {
	return api.LNode{Op: api.LProject, Items: items}
}

func distinct() api.LNode {
	return api.LNode{Op: api.LDistinct}
}

func union() api.LNode {
	return api.LNode{Op: api.LUnion}
}

func sortBy(limit int, order ...api.Ord) api.LNode {
	return api.LNode{Op: api.LSort, Order: order, Limit: limit}
}

// tree is that of a root over parts, be they such as it wants or not.
func tree(root api.LNode, parts ...api.Logic) api.Logic {
	var l []api.LNode
	places := [2]int{-1, -1}
	for k, p := range parts {
		by := len(l)
		for _, n := range p.Nodes {
			if n.A >= 0 {
				n.A += by
			}
			if n.B >= 0 {
				n.B += by
			}
			l = append(l, n)
		}
		places[k] = len(l) - 1
	}
	root.A, root.B = places[0], places[1]
	return api.Logic{Nodes: append(l, root)}
}

// up is operators one over the other, the last one the root, over a tree.
func up(l api.Logic, nodes ...api.LNode) api.Logic {
	for _, n := range nodes {
		l = tree(n, l)
	}
	return l
}

func table(number int, kinds ...int) api.Logic {
	return tree(scan(number, kinds...))
}

// wide is a table of so many numbers.
func wide(number, width int) api.Logic {
	kinds := make([]int, width)
	for k := range kinds {
		kinds[k] = api.VInt
	}
	return table(number, kinds...)
}

// tableT and tableU are the chapter's own: t has a and b, u has c.
func tableT() api.Logic {
	return wide(0, 2)
}

func tableU() api.Logic {
	return wide(1, 1)
}

// both is their join.
func both(left bool) api.Logic {
	return tree(join(left, lit(yes)), tableT(), tableU())
}

// each is a tree whose root is of each of the operators, of which no rule holds; each but the first one comes to two numbers.
func each() []api.Logic {
	t := tableT()
	return []api.Logic{
		both(true),
		t,
		tree(join(false, eq(0, 1)), tableU(), tableU()),
		tree(join(true, bad(0, 1)), tableU(), tableU()),
		up(t, filter(is(0, 1))),
		up(t, filter(bad(1, 0))),
		up(t, group([]int{1}, agg(api.AggSum, col(0)))),
		up(t, group(nil, agg(api.AggAll), agg(api.AggMax, col(1)))),
		up(t, project(col(1), on(api.NAdd, col(0), num(1)))),
		up(t, project(col(0), num(3))),
		up(t, distinct()),
		tree(union(), t, wide(2, 2)),
	}
}

// noTrees are trees that may not be.
func noTrees() []api.Logic {
	one := wide(0, 1)
	return []api.Logic{
		{}, {Nodes: []api.LNode{}}, {Nodes: []api.LNode{{}}}, {Nodes: make([]api.LNode, 1<<16)},
		table(-1, api.VInt), table(api.MaxTables, api.VInt), table(0), table(0, api.VNull), table(0, api.VSum), wide(0, api.MaxColumns+1),
		{Nodes: append(slices.Clone(one.Nodes), one.Nodes...)},
		{Nodes: []api.LNode{{Op: api.LDistinct, A: 0, B: -1}}},
		{Nodes: []api.LNode{{Op: api.LFilter, A: -1, B: -1, Cond: lit(yes)}}},
		{Nodes: []api.LNode{scan(0, api.VInt), {Op: api.LFilter, A: 1, B: -1, Cond: lit(yes)}}},
		{Nodes: []api.LNode{scan(0, api.VInt), {Op: api.LFilter, A: 0, B: 0, Cond: lit(yes)}}},
		{Nodes: []api.LNode{{Op: api.LScan, Kinds: []int{api.VInt}}}},
		up(one, filter(num(1))), up(one, filter(is(1, 1))), up(one, filter(api.Expr{})), up(one, filter(col(math.MaxInt))),
		up(one, filter(lit(yes)), filter(num(1))), up(one, filter(num(1)), filter(lit(yes))),
		tree(join(false, num(1)), one, one), tree(join(true, is(2, 1)), one, one), up(tree(join(true, is(2, 1)), one, one), filter(is(0, 1))),
		up(one, group(nil)), up(one, group([]int{1})), up(one, group(nil, agg(api.AggSum, lit(yes)))), up(one, group(nil, agg(api.AggAll, col(0)))),
		up(one, project()), up(one, project(on(api.NAdd, col(0), lit(yes)))), up(one, project(col(0)), project(col(1))),
		tree(union(), one, table(1, api.VText)), tree(union(), one, wide(0, 2)),
		up(one, sortBy(-2)), up(one, sortBy(-1, api.Ord{Col: 1})), up(one, sortBy(-1, make([]api.Ord, 4)...)), up(one, sortBy(api.MaxNumber+1)),
		up(one, sortBy(-1), distinct()), up(one, distinct(), sortBy(-1), distinct()), up(one, sortBy(-1), filter(lit(yes))),
		up(one, api.LNode{Op: api.LInput}), up(one, api.LNode{Op: -1}), up(one, api.LNode{Op: api.LDistinct, Cond: lit(yes)}),
		up(one, slices.Repeat([]api.LNode{distinct()}, api.MaxLogic)...),
	}
}
