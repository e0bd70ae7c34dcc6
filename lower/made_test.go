package lower_test

import (
	"math"
	"slices"
	"strings"
	"testing"

	"bowsprit/api"
	"bowsprit/catalog"
)

// few are the tables of most tests: t and u as in the chapter, one of each kind of columns, one as wide as may be.
const few = "table t a int b text by a\ntable u a int\ntable v c bool d int e text b bool\ntable w w int x int y int z int by w z\n"

func tables(t *testing.T, lines string) api.Catalog {
	t.Helper()
	c, at, e := catalog.Parse(lines)
	if e != api.OK {
		t.Fatalf("%q: %v at %v", lines, e, at)
	}
	return c
}

// badCatalogs are such as may not be.
func badCatalogs() []api.Catalog {
	a := []api.Column{{Name: "a", Kind: api.VInt}}
	t := api.Table{Name: "t", Columns: a}
	return []api.Catalog{
		{Tables: []api.Table{t, {Name: "T", Columns: a}}},
		{Tables: []api.Table{t, t}},
		{Tables: []api.Table{t, {Name: "u"}}},
		{Tables: []api.Table{{Name: "t", Columns: []api.Column{{Name: "a", Kind: api.VNull}}}}},
		{Tables: []api.Table{{Name: "t", Columns: a, Keys: []int{1}}}},
		{Tables: []api.Table{t, {Name: "u", Columns: a}, {Name: "v", Columns: a}, {Name: "w", Columns: a}, {Name: "x", Columns: a}}},
	}
}

// Values, expressions, nodes and trees are made without the program.
var (
	null = api.Value{}
	no   = api.Value{Kind: api.VBool}
	yes  = api.Value{Kind: api.VBool, N: 1}
)

func text(s string) api.Value {
	return api.Value{Kind: api.VText, S: s}
}

func exprOf(l ...api.ENode) api.Expr {
	return api.Expr{Nodes: l}
}

func lit(v api.Value) api.Expr {
	return exprOf(api.ENode{Tag: api.NLit, L: -1, R: -1, Value: v})
}

func num(n int64) api.Expr {
	return lit(api.Value{Kind: api.VInt, N: n})
}

func col(n int) api.Expr {
	return exprOf(api.ENode{Tag: api.ECol, L: -1, R: -1, Col: n})
}

// moved is a place that stands so much further on, if there is one.
func moved(place, by int) int {
	if place < 0 {
		return place
	}
	return place + by
}

// on is the expression of a tag over one part, or two.
func on(tag int, parts ...api.Expr) api.Expr {
	var l []api.ENode
	places := [2]int{-1, -1}
	for k, p := range parts {
		by := len(l)
		for _, n := range p.Nodes {
			n.L, n.R = moved(n.L, by), moved(n.R, by)
			l = append(l, n)
		}
		places[k] = len(l) - 1
	}
	return exprOf(append(l, api.ENode{Tag: tag, L: places[0], R: places[1]})...)
}

// noTruths are conditions that may stand nowhere, over whatever of the tables' columns: what is no expression, has no kind, is of no truth's kind, asks for what is not there.
func noTruths() []api.Expr {
	return []api.Expr{
		exprOf(api.ENode{}),
		exprOf(api.ENode{Tag: api.NNot, L: -1, R: -1}),
		exprOf(api.ENode{Tag: api.ECol, R: -1}),
		exprOf(api.ENode{Tag: api.NLit, L: -1, R: -1, Col: 1}),
		exprOf(api.ENode{Tag: api.NCountAll, L: -1, R: -1}),
		{Nodes: slices.Concat(lit(yes).Nodes, lit(yes).Nodes)},
		{Nodes: slices.Repeat(lit(yes).Nodes, api.MaxExpr+1)},
		lit(text(strings.Repeat("x", api.MaxText+1))),
		col(-1), col(api.MaxWidth), col(math.MaxInt), col(math.MinInt),
		num(1), lit(text("a")), on(api.NNeg, lit(null)), on(api.NNot, num(1)), on(api.NEq, num(1), lit(yes)), on(api.NAnd, lit(yes), num(1)),
		on(api.NIsNull, col(api.MaxWidth-1)), on(api.NIsNull, on(api.NNeg, lit(text("a")))),
	}
}

func agg(tag int, arg ...api.Expr) api.Agg {
	a := api.Agg{Tag: tag}
	for _, x := range arg {
		a.Arg = x
	}
	return a
}

// The nodes of operators; of their places nothing is said yet.
func scan(table int, kinds ...int) api.LNode {
	return api.LNode{Op: api.LScan, A: -1, B: -1, Table: table, Kinds: kinds}
}

func join(left bool, cond api.Expr) api.LNode {
	return api.LNode{Op: api.LJoin, Left: left, Cond: cond}
}

func filter(cond api.Expr) api.LNode {
	return api.LNode{Op: api.LFilter, Cond: cond}
}

func group(keys []int, aggs ...api.Agg) api.LNode {
	return api.LNode{Op: api.LGroup, Keys: keys, Aggs: aggs}
}

func project(items ...api.Expr) api.LNode {
	return api.LNode{Op: api.LProject, Items: items}
}

func distinct() api.LNode {
	return api.LNode{Op: api.LDistinct}
}

func union() api.LNode {
	return api.LNode{Op: api.LUnion}
}

func sortBy(limit int, order ...api.Ord) api.LNode {
	return api.LNode{Op: api.LSort, Order: order, Limit: limit}
}

// tree is that of a root over parts, be they such as it wants or not.
func tree(root api.LNode, parts ...api.Logic) api.Logic {
	var l []api.LNode
	places := [2]int{-1, -1}
	for k, p := range parts {
		by := len(l)
		for _, n := range p.Nodes {
			n.A, n.B = moved(n.A, by), moved(n.B, by)
			l = append(l, n)
		}
		places[k] = len(l) - 1
	}
	root.A, root.B = places[0], places[1]
	return api.Logic{Nodes: append(l, root)}
}

// The trees of the few tables.
func scanT() api.Logic { return tree(scan(0, api.VInt, api.VText)) }
func scanU() api.Logic { return tree(scan(1, api.VInt)) }
func scanV() api.Logic { return tree(scan(2, api.VBool, api.VInt, api.VText, api.VBool)) }
func scanW() api.Logic { return tree(scan(3, api.VInt, api.VInt, api.VInt, api.VInt)) }

func scans() []api.Logic {
	return []api.Logic{scanT(), scanU(), scanV(), scanW()}
}

// from is a select of one item from a table.
func from(table int, items ...api.Expr) api.BSelect {
	return api.BSelect{Tables: []int{table}, Items: items}
}
