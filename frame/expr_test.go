package frame_test

import (
	"math"
	"slices"
	"strings"
	"testing"

	"bowsprit/api"
)

// asItem is a plan that has an expression over a number, a truth and a text.
func asItem(x api.Expr) api.Plan {
	return one(steps(scan(0, ki, kb, kt), project(x)))
}

// P23.3: the bytes of an expression with each Tag, over leaves that have bytes of their own.
func TestTags(t *testing.T) {
	head := unhex("01 01 03 00 02 01 00 03 02 01 03 05 01")
	exprs := map[int]api.Expr{
		api.NLit: num(3), api.ECol: col(2), api.NNeg: on(api.NNeg, col(0)), api.NNot: on(api.NNot, col(1)), api.NIsNull: on(api.NIsNull, col(2)), api.NNotNull: on(api.NNotNull, lit(text("a"))),
	}
	for tag := api.NAdd; tag <= api.NDiv; tag++ {
		exprs[tag] = on(tag, col(0), num(3))
	}
	for tag := api.NEq; tag <= api.NGe; tag++ {
		exprs[tag] = on(tag, lit(text("a")), col(2))
	}
	for tag := api.NAnd; tag <= api.NOr; tag++ {
		exprs[tag] = on(tag, col(1), lit(null))
	}
	bodies := map[int]string{
		api.NLit: "0001 01 020000000000000003", api.ECol: "0001 02 02", api.NNeg: "0002 02 00 04", api.NNot: "0002 02 01 05", api.NIsNull: "0002 02 02 06", api.NNotNull: "0002 01 030161 07",
		api.NAdd: "0003 02 00 01 020000000000000003 0C", api.NSub: "0003 02 00 01 020000000000000003 0D", api.NMul: "0003 02 00 01 020000000000000003 0E", api.NDiv: "0003 02 00 01 020000000000000003 0F",
		api.NEq: "0003 01 030161 02 02 10", api.NNe: "0003 01 030161 02 02 11", api.NLt: "0003 01 030161 02 02 12", api.NLe: "0003 01 030161 02 02 13", api.NGt: "0003 01 030161 02 02 14", api.NGe: "0003 01 030161 02 02 15",
		api.NAnd: "0003 02 01 01 00 16", api.NOr: "0003 02 01 01 00 17",
	}
	if len(exprs) != 18 || len(bodies) != 18 {
		t.Fatal(len(exprs), len(bodies))
	}
	for tag, x := range exprs {
		laysPlan(t, asItem(x), slices.Concat(head, unhex(bodies[tag])))
	}
}

// P23.3: tags of ast that no expression has, and such as are none; with as many parts as they might have.
func TestNoTags(t *testing.T) {
	for _, tag := range append(outside(api.NLit, api.NOr), api.NCountAll, api.NCount, api.NSum, api.NMin, api.NMax) {
		mayNotPlan(t, asItem(exprOf(api.ENode{Tag: tag, L: -1, R: -1})), asItem(on(tag, col(0))), asItem(on(tag, col(0), col(0))), asItem(on(api.NIsNull, on(tag, col(0)))))
	}
}

// P23.3: literals of each kind, and at their edges; none of a sum.
func TestLiterals(t *testing.T) {
	for _, v := range []api.Value{null, no, yes, number(0), number(1), number(-1), number(math.MaxInt64), number(math.MinInt64), text(""), text("a"), text("\x00\xff'"), text(strings.Repeat("x", api.MaxText))} {
		mayPlan(t, asItem(lit(v)), asItem(on(api.NIsNull, lit(v))), asItem(on(api.NEq, lit(v), lit(v))))
	}
	for _, v := range []api.Value{sumOf(0, 0), sumOf(1, 2), {Kind: 5}, {Kind: -1}, {Kind: 256}, {N: 1}, {Kind: kb, N: 2}, {Kind: ki, U: 1}, {Kind: ki, S: "a"}, {Kind: kt, N: 1}, text(strings.Repeat("x", api.MaxText+1)), text(strings.Repeat("x", 256))} {
		mayNotPlan(t, asItem(lit(v)), asItem(on(api.NIsNull, lit(v))))
	}
}

// P23.3: columns, as far as there are such.
func TestColumns(t *testing.T) {
	wide := project(slices.Repeat([]api.Expr{col(0)}, api.MaxWidth)...)
	for n := range api.MaxWidth {
		mayPlan(t, one(steps(scan(0, ki), wide, project(col(n)))))
	}
	for _, n := range outside(0, api.MaxWidth-1) {
		mayNotPlan(t, one(steps(scan(0, ki), wide, project(col(n)))))
	}
	mayNotPlan(t, asItem(col(3)))
}

// P23.3: expressions of one node, of 255, 256, 257, and of as many as there may be, in the shapes that a tree may have; of one more.
func TestLongExprs(t *testing.T) {
	for _, count := range []int{1, 2, 3, 254, 255, 256, 257, 511, 512, 513, api.MaxExpr - 1, api.MaxExpr} {
		x := nots(count - 1)
		if len(x.Nodes) != count {
			t.Fatal(count)
		}
		mayPlan(t, asItem(x), one(steps(scan(0, ki), filter(x))), one(steps(scan(0, ki), scan(0, ki), leftJoin(x))), one(steps(scan(0, ki), partial(nil, agg(api.AggMax, x), agg(api.AggAll), agg(api.AggCount, x)))))
	}
	left, right := col(0), col(0)
	for len(left.Nodes) < api.MaxExpr-1 {
		left, right = on(api.NSub, left, num(1)), on(api.NSub, num(1), right)
	}
	even := col(0)
	for len(even.Nodes) < 511 {
		even = on(api.NMul, even, even)
	}
	mayPlan(t, asItem(left), asItem(right), asItem(even), asItem(on(api.NNeg, left)), asItem(on(api.NNeg, right)))
	mayNotPlan(t, asItem(nots(api.MaxExpr)), asItem(nots(65535)), asItem(nots(65536)), asItem(on(api.NSub, left, right)))
}

// P23.3: an Arg without nodes is of AggAll alone; a condition and an item have some.
func TestExprsWithoutNodes(t *testing.T) {
	for tag := api.AggAll; tag <= api.AggMax; tag++ {
		p := one(steps(scan(0, ki), group(nil, agg(tag))))
		empty := copyOf(p)
		empty.Frags[0].Nodes[1].Aggs[0].Arg.Nodes = []api.ENode{}
		over := one(steps(input(0, map[int]int{api.AggAll: ki, api.AggCount: ki, api.AggSum: ks}[tag]), final(0, tag)))
		if mayPlan(t, over); tag == api.AggAll {
			mayPlan(t, p, empty)
		} else {
			mayNotPlan(t, p, empty)
		}
		over.Frags[0].Nodes[1].Aggs[0].Arg = num(1)
		mayNotPlan(t, over)
	}
	mayNotPlan(t, one(steps(scan(0, ki), filter(api.Expr{}))), one(steps(scan(0, ki), scan(0, ki), join(api.Expr{}))), one(steps(scan(0, ki), project(col(0), api.Expr{}))))
}

// P23.3: nodes of an expression that make no tree, or several, or one in another order.
func TestExprsThatAreNoTrees(t *testing.T) {
	a, b := col(0).Nodes[0], lit(yes).Nodes[0]
	for _, l := range [][]api.ENode{
		{a, b}, {{Tag: api.NNeg}}, {{Tag: api.NNeg, L: -1, R: -1}}, {{Tag: api.NNeg, L: 0, R: -1}}, {{Tag: api.NNeg, L: 1, R: -1}, a}, {a, {Tag: api.NNeg, L: -1, R: 0}}, {a, {Tag: api.NNeg, L: 0}}, {a, {Tag: api.NAdd, L: 0, R: 0}}, {a, {Tag: api.NAdd, L: -1, R: 0}},
		{a, a, {Tag: api.NAdd, L: 1, R: 0}}, {a, a, {Tag: api.NNeg, L: 0, R: -1}}, {a, a, {Tag: api.NNeg, L: 1, R: -1}}, {a, a, a, {Tag: api.NAdd, L: 1, R: 2}}, {a, a, a, {Tag: api.NAdd, L: 0, R: 2}, {Tag: api.NAdd, L: 1, R: 3}},
		{{Tag: api.ECol, L: 0, R: -1}}, {{Tag: api.ECol, L: -1, R: 0}},
	} {
		mayNotPlan(t, asItem(exprOf(l...)))
	}
}
