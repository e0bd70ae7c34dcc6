package denote_test

import (
	"math"
	"slices"
	"strconv"
	"strings"

	"bowsprit/api"
)

// Values, rows, expressions, nodes and trees are made without the program.
var (
	null = api.Value{}
	no   = api.Value{Kind: api.VBool}
	yes  = api.Value{Kind: api.VBool, N: 1}
)

const (
	most  = math.MaxInt64
	least = math.MinInt64
)

func number(n int64) api.Value {
	return api.Value{Kind: api.VInt, N: n}
}

func text(s string) api.Value {
	return api.Value{Kind: api.VText, S: s}
}

// valueOf is a value of each kind, the kinds' numbers being its places.
var valueOf = []api.Value{null, yes, number(5), text("a"), {Kind: api.VSum, N: 1, U: 2}}

// noValues are values that may not be.
func noValues() []api.Value {
	return []api.Value{
		{N: 1}, {U: 1}, {S: "a"}, {Kind: -1}, {Kind: api.VSum + 1}, {Kind: math.MaxInt}, {Kind: math.MinInt}, {Kind: 1<<32 + api.VInt},
		{Kind: api.VBool, N: 2}, {Kind: api.VBool, N: -1}, {Kind: api.VBool, U: 1}, {Kind: api.VBool, S: "a"},
		{Kind: api.VInt, U: 1}, {Kind: api.VInt, S: "1"},
		{Kind: api.VText, N: 1}, {Kind: api.VText, U: 1}, text(strings.Repeat("x", api.MaxText+1)),
		{Kind: api.VSum, S: "a"},
	}
}

// written is the value that a word writes.
func written(word string) api.Value {
	switch {
	case word == "NULL":
		return null
	case word == "FALSE":
		return no
	case word == "TRUE":
		return yes
	case word[0] == '\'':
		return text(word[1 : len(word)-1])
	}
	n, e := strconv.ParseInt(word, 10, 64)
	if e != nil {
		panic(word)
	}
	return number(n)
}

// list is rows as they are written: a stroke between each two of them, blanks between values.
func list(s string) []api.Row {
	var l []api.Row
	if s == "" {
		return l
	}
	for _, line := range strings.Split(s, "/") {
		r := api.Row{}
		for _, word := range strings.Fields(line) {
			r = append(r, written(word))
		}
		l = append(l, r)
	}
	return l
}

// counted are rows of one number each, from 1 on.
func counted(count int) []api.Row {
	l := make([]api.Row, count)
	for k := range l {
		l[k] = api.Row{number(int64(k + 1))}
	}
	return l
}

func base(tables ...[]api.Row) api.Base {
	return api.Base{Tables: tables}
}

func exprOf(l ...api.ENode) api.Expr {
	return api.Expr{Nodes: l}
}

func lit(v api.Value) api.Expr {
	return exprOf(api.ENode{Tag: api.NLit, L: -1, R: -1, Value: v})
}

func num(n int64) api.Expr {
	return lit(number(n))
}

func col(n int) api.Expr {
	return exprOf(api.ENode{Tag: api.ECol, L: -1, R: -1, Col: n})
}

// on is the expression of a tag over one part, or two.
func on(tag int, parts ...api.Expr) api.Expr {
	root := api.ENode{Tag: tag, L: -1, R: -1}
	var l []api.ENode
	for k, p := range parts {
		by := len(l)
		for _, n := range p.Nodes {
			if n.L >= 0 {
				n.L += by
			}
			if n.R >= 0 {
				n.R += by
			}
			l = append(l, n)
		}
		if k == 0 {
			root.L = len(l) - 1
		} else {
			root.R = len(l) - 1
		}
	}
	return exprOf(append(l, root)...)
}

// bad is what faults where an expression comes to a number, and else is true.
func bad(x api.Expr, n int64) api.Expr {
	return on(api.NNotNull, on(api.NDiv, num(1), on(api.NSub, x, num(n))))
}

// noExprs are expressions that may not be.
func noExprs() []api.Expr {
	return []api.Expr{
		{},
		{Nodes: []api.ENode{}},
		exprOf(api.ENode{}),
		exprOf(api.ENode{Tag: api.NCountAll, L: -1, R: -1}),
		exprOf(api.ENode{Tag: api.NNot, L: -1, R: -1}),
		exprOf(api.ENode{Tag: api.NLit, L: -1, R: -1, Col: 1}),
		exprOf(api.ENode{Tag: api.NLit, L: -1, R: -1, Value: api.Value{Kind: api.VSum}}),
		{Nodes: slices.Concat(lit(yes).Nodes, lit(yes).Nodes)},
		col(-1), col(api.MaxWidth), col(math.MaxInt), col(math.MinInt),
		lit(text(strings.Repeat("x", api.MaxText+1))),
		{Nodes: slices.Repeat(lit(yes).Nodes, api.MaxExpr+1)},
	}
}

func agg(tag int, arg ...api.Expr) api.Agg {
	a := api.Agg{Tag: tag}
	for _, x := range arg {
		a.Arg = x
	}
	return a
}

func scan(table int, kinds ...int) api.LNode {
	return api.LNode{Op: api.LScan, A: -1, B: -1, Table: table, Kinds: kinds}
}

func join(left bool, cond api.Expr) api.LNode {
	return api.LNode{Op: api.LJoin, Left: left, Cond: cond}
}

func filter(cond api.Expr) api.LNode {
	return api.LNode{Op: api.LFilter, Cond: cond}
}

func group(keys []int, aggs ...api.Agg) api.LNode {
	return api.LNode{Op: api.LGroup, Keys: keys, Aggs: aggs}
}

func project(items ...api.Expr) api.LNode {
	return api.LNode{Op: api.LProject, Items: items}
}

func distinct() api.LNode {
	return api.LNode{Op: api.LDistinct}
}

func union() api.LNode {
	return api.LNode{Op: api.LUnion}
}

func sortBy(limit int, order ...api.Ord) api.LNode {
	return api.LNode{Op: api.LSort, Order: order, Limit: limit}
}

// up and down order by a column.
func up(column int) api.Ord {
	return api.Ord{Col: column}
}

func down(column int) api.Ord {
	return api.Ord{Col: column, Desc: true}
}

// tree is that of a root over parts, be they such as it wants or not.
func tree(root api.LNode, parts ...api.Logic) api.Logic {
	var l []api.LNode
	places := [2]int{-1, -1}
	for k, p := range parts {
		by := len(l)
		for _, n := range p.Nodes {
			if n.A >= 0 {
				n.A += by
			}
			if n.B >= 0 {
				n.B += by
			}
			l = append(l, n)
		}
		places[k] = len(l) - 1
	}
	root.A, root.B = places[0], places[1]
	return api.Logic{Nodes: append(l, root)}
}

func table(number int, kinds ...int) api.Logic {
	return tree(scan(number, kinds...))
}

var ints = []int{api.VInt}

// tableT is the chapter's own table.
func tableT() api.Logic {
	return table(0, api.VInt)
}

// baseT is the chapter's own database.
func baseT() api.Base {
	return base(list("1 / 2 / NULL"))
}

// mixed are the kinds of a table that has all of them, and mixedRows its rows.
var mixed = []int{api.VInt, api.VText, api.VBool}

func mixedRows() []api.Row {
	return list("3 'b' TRUE / 1 'a' NULL / 3 'b' TRUE / NULL NULL NULL / 2 '' FALSE / 3 'a' FALSE / NULL 'b' TRUE")
}

// each is a tree whose root is of each of the operators, over mixed in the places 0 and 1; each but the last one comes to columns of the same kinds.
func each() []api.Logic {
	m, w := table(0, mixed...), table(1, mixed...)
	return []api.Logic{
		m,
		tree(project(col(3), col(4), col(2)), tree(join(false, on(api.NEq, col(0), col(3))), m, w)),
		tree(project(col(0), col(4), col(5)), tree(join(true, on(api.NLt, col(0), col(3))), m, w)),
		tree(filter(on(api.NOr, col(2), on(api.NGt, col(0), num(2)))), m),
		tree(group([]int{0}, agg(api.AggMin, col(1)), agg(api.AggMax, col(2))), m),
		tree(project(on(api.NAdd, col(0), num(1)), col(1), on(api.NIsNull, col(2))), w),
		tree(distinct(), m),
		tree(union(), m, w),
		tree(sortBy(4, down(1), up(0)), w),
	}
}

// some comes to the first rows of the table 0, that is counted(12); greater counts are made of it by sums and products.
func some(count int64) api.Logic {
	return tree(filter(on(api.NLe, col(0), num(count))), tableT())
}

func plus(a, b api.Logic) api.Logic {
	return tree(union(), a, b)
}

func times(a, b api.Logic) api.Logic {
	return tree(project(col(0)), tree(join(false, lit(yes)), a, b))
}
