package expr_test

import (
	"math"
	"math/rand"
	"slices"
	"testing"

	"bowsprit/api"
	"bowsprit/expr"
)

// allTags are tags of all kinds, and such as are none.
func allTags() []int {
	return slices.Concat(noParts, onePart, twos, noTags, []int{-2, -3, api.NOr + 2, api.NOr + 3})
}

// P10.2: a leaf of each value and column that may be, whatever its places say; and of none that may not.
func TestLeaf(t *testing.T) {
	places := []int{-1, 0, 1, 5, -2, math.MaxInt, math.MinInt}
	for _, l := range places {
		for _, r := range places {
			for _, v := range plain() {
				is(t, lit(v))(expr.Leaf(api.ENode{Tag: api.NLit, L: l, R: r, Value: v}))
			}
			for n := range api.MaxWidth {
				is(t, col(n))(expr.Leaf(api.ENode{Tag: api.ECol, L: l, R: r, Col: n}))
			}
			for _, tag := range slices.Concat(onePart, twos, noTags) {
				isNone(t, api.ErrExpr)(expr.Leaf(node(tag, l, r)))
			}
		}
	}
	for _, v := range unplain() {
		isNone(t, api.ErrExpr)(expr.Leaf(literal(v)))
	}
	for _, n := range []int{-1, api.MaxWidth, api.MaxWidth + 1, math.MaxInt, math.MinInt} {
		isNone(t, api.ErrExpr)(expr.Leaf(column(n)))
	}
	isNone(t, api.ErrExpr)(expr.Leaf(api.ENode{Tag: api.NLit, Col: 1, Value: yes}))
	isNone(t, api.ErrExpr)(expr.Leaf(api.ENode{Tag: api.NLit, Col: -1}))
	isNone(t, api.ErrExpr)(expr.Leaf(api.ENode{Tag: api.ECol, Value: yes}))
	isNone(t, api.ErrExpr)(expr.Leaf(api.ENode{Tag: api.ECol, Col: 2, Value: api.Value{S: "a"}}))
}

// P10.2: each tag over one part, and over two.
func TestOneAndTwo(t *testing.T) {
	parts := []api.Expr{col(0), col(15), num(5), lit(text("a")), on(api.NNeg, col(3)), on(api.NAdd, col(1), num(2)), on(api.NOr, on(api.NEq, col(0), col(1)), on(api.NIsNull, col(2)))}
	for _, tag := range allTags() {
		for _, a := range parts {
			if slices.Contains(onePart, tag) {
				is(t, on(tag, a))(expr.One(tag, a))
			} else {
				isNone(t, api.ErrExpr)(expr.One(tag, a))
			}
			for _, b := range parts {
				if slices.Contains(twos, tag) {
					is(t, on(tag, a, b))(expr.Two(tag, a, b))
				} else {
					isNone(t, api.ErrExpr)(expr.Two(tag, a, b))
				}
			}
		}
	}
}

// P10.2: 1000 nodes, and one more.
func TestOneAndTwoAtTheLimit(t *testing.T) {
	for _, tag := range onePart {
		for _, x := range []api.Expr{wide(api.MaxExpr - 1), chain(api.MaxExpr - 1), leaning(api.MaxExpr-1, true), leaning(api.MaxExpr-1, false)} {
			is(t, on(tag, x))(expr.One(tag, x))
		}
		for _, x := range []api.Expr{full, chain(api.MaxExpr)} {
			isNone(t, api.ErrExpr)(expr.One(tag, x))
		}
	}
	for _, tag := range twos {
		for _, left := range []int{1, 2, 499, 500, 998} {
			a, b, c := wide(left), chain(api.MaxExpr-1-left), chain(api.MaxExpr-left)
			is(t, on(tag, a, b))(expr.Two(tag, a, b))
			is(t, on(tag, b, a))(expr.Two(tag, b, a))
			isNone(t, api.ErrExpr)(expr.Two(tag, a, c))
			isNone(t, api.ErrExpr)(expr.Two(tag, c, a))
		}
		isNone(t, api.ErrExpr)(expr.Two(tag, full, full))
	}
}

// P10.2: parts that may not be, and would come to what may be, if they were just laid one behind the other.
func TestPartsThatFitTogether(t *testing.T) {
	two := nodes(column(0), column(1))
	refused := isNone(t, api.ErrExpr)
	for _, tag := range twos {
		refused(expr.Two(tag, api.Expr{}, two))
		refused(expr.Two(tag, two, api.Expr{}))
		refused(expr.Two(tag, nodes(column(0), column(1), node(tag, -1, -1)), col(2)))
		refused(expr.Two(tag, col(0), nodes(node(api.NNeg, -1, -1), column(1))))
		refused(expr.One(tag, two))
		refused(expr.One(tag, nodes(column(0), column(1))))
	}
	refused(expr.One(api.NNot, nodes(column(0), node(api.NNot, -1, -1))))
	refused(expr.One(api.NNot, nodes(column(0), node(api.NNot, 1, -1))))
	refused(expr.One(api.NLit, api.Expr{}))
	refused(expr.Two(api.NNot, col(0), api.Expr{}))
	refused(expr.Two(api.NNot, api.Expr{}, col(0)))
	refused(expr.Two(api.NLit, api.Expr{}, api.Expr{}))
	refused(expr.All([]api.Expr{two, nodes(leaf(api.NAnd))}))
	refused(expr.All([]api.Expr{api.Expr{}, two}))
	refused(expr.Put(on(api.NAdd, col(0), col(1)), []api.Expr{two, {}}))
}

// made is the expression again, made node by node by Leaf, One and Two.
func made(t *testing.T, x api.Expr, place int) api.Expr {
	t.Helper()
	n := x.Nodes[place]
	var y api.Expr
	var e api.Errno
	switch {
	case n.L < 0:
		y, e = expr.Leaf(n)
	case n.R < 0:
		y, e = expr.One(n.Tag, made(t, x, n.L))
	default:
		y, e = expr.Two(n.Tag, made(t, x, n.L), made(t, x, n.R))
	}
	if e != api.OK {
		t.Fatalf("%v at %v: %v", x, place, e)
	}
	return y
}

// P10.2: whatever may be is made of its nodes.
func TestMadeOfItsNodes(t *testing.T) {
	r := rand.New(rand.NewSource(102))
	for range 500 {
		x := anyExpr(r, 6, api.MaxWidth)
		if y := made(t, x, len(x.Nodes)-1); !same(x, y) {
			t.Errorf("%v is %v", x, y)
		}
	}
}

// kept holds that a call changes nothing of the expressions that it is handed, nor of the room behind them, and answers expressions of their own.
func kept(t *testing.T, call func(l []api.Expr) []api.Expr, l ...api.Expr) {
	t.Helper()
	odd := api.ENode{Tag: -7, L: 3, R: 4, Col: 5, Value: text("odd")}
	handed, before := make([]api.Expr, len(l)), make([][]api.ENode, len(l))
	for k, x := range l {
		room := append(slices.Clone(x.Nodes), odd, odd, odd)
		handed[k] = nodes(room[:len(x.Nodes)]...)
		before[k] = slices.Clone(room)
	}
	row := append(slices.Clone(handed), nodes(odd), nodes(odd))
	answers := call(row[:len(handed)])
	if len(answers) == 0 {
		t.Fatal("nothing is answered")
	}
	was := make([][]api.ENode, len(answers))
	for k, x := range answers {
		was[k] = slices.Clone(x.Nodes)
	}
	for k, x := range answers {
		for j := range x.Nodes {
			x.Nodes[j] = odd
		}
		_ = append(x.Nodes, odd, odd)
		for j := k + 1; j < len(answers); j++ {
			if !slices.Equal(answers[j].Nodes, was[j]) {
				t.Errorf("answers %d and %d share", k, j)
			}
		}
	}
	for k := range handed {
		if !slices.Equal(handed[k].Nodes[:len(before[k])], before[k]) || !same(row[k], handed[k]) {
			t.Errorf("%v was %v", handed[k].Nodes[:len(before[k])], before[k])
		}
	}
	if !same(row[len(handed)], nodes(odd)) || !same(row[len(handed)+1], nodes(odd)) {
		t.Errorf("behind the list: %v", row[len(handed):cap(row)])
	}
}

// R3: of all calls that answer expressions.
func TestKept(t *testing.T) {
	first := func(x api.Expr, e api.Errno) []api.Expr {
		t.Helper()
		if e != api.OK {
			t.Fatal(e)
		}
		return []api.Expr{x}
	}
	a, b, c := on(api.NEq, col(0), col(1)), on(api.NAnd, col(2), on(api.NNot, col(0))), lit(yes)
	for _, parts := range [][]api.Expr{{a, b, c}, {b, a, c}, {c, c, c}, {b, b, b}} {
		kept(t, func(l []api.Expr) []api.Expr { return first(expr.One(api.NNot, l[0])) }, parts...)
		kept(t, func(l []api.Expr) []api.Expr { return first(expr.Two(api.NOr, l[0], l[1])) }, parts...)
		kept(t, func(l []api.Expr) []api.Expr { return first(expr.Two(api.NOr, l[0], l[0])) }, parts...)
		kept(t, func(l []api.Expr) []api.Expr { return first(expr.All(l)) }, parts...)
		kept(t, func(l []api.Expr) []api.Expr { return first(expr.All(l[:1])) }, parts...)
		kept(t, func(l []api.Expr) []api.Expr { return expr.Ands(l[0]) }, parts...)
		kept(t, func(l []api.Expr) []api.Expr { return first(expr.Put(l[0], l)) }, parts...)
		kept(t, func(l []api.Expr) []api.Expr { return first(expr.Put(col(1), l)) }, parts...)
		kept(t, func(l []api.Expr) []api.Expr { return first(expr.Put(c, l)) }, parts...)
		kept(t, func(l []api.Expr) []api.Expr { return first(expr.Put(l[2], nil)) }, c, c, c)
		for _, by := range []int{0, 1} {
			kept(t, func(l []api.Expr) []api.Expr { return first(expr.Shift(l[0], by)) }, parts...)
		}
		kept(t, func(l []api.Expr) []api.Expr {
			x := l[0]
			expr.Check(x)
			expr.Same(x, l[1])
			expr.Kind(x, []int{1, 2, 3})
			expr.Eval(x, api.Row{yes, no, null})
			expr.Safe(x)
			expr.Cols(x)[0] = 9
			expr.Pair(x, 1)
			return []api.Expr{nodes(slices.Clone(x.Nodes)...)}
		}, a, b, c)
	}
}
