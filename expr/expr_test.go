package expr_test

import (
	"math"
	"math/rand"
	"slices"
	"strings"
	"testing"

	"bowsprit/api"
	"bowsprit/expr"
)

// Values are made without the program.
var (
	null  = api.Value{}
	no    = api.Value{Kind: api.VBool}
	yes   = api.Value{Kind: api.VBool, N: 1}
	least = number(math.MinInt64)
	most  = number(math.MaxInt64)
)

func number(n int64) api.Value {
	return api.Value{Kind: api.VInt, N: n}
}

func text(s string) api.Value {
	return api.Value{Kind: api.VText, S: s}
}

// plain are values of all kinds, null among them, the least and the greatest ones, and such as make arithmetic fault.
func plain() []api.Value {
	l := []api.Value{null, no, yes, least, number(math.MinInt64 + 1), number(-2), number(-1), number(0), number(1), number(2), number(7), number(1 << 32), number(math.MaxInt64 - 1), most}
	for _, s := range []string{"", "a", "ab", "B", "\x00", "\xff", "it's", strings.Repeat("x", api.MaxText)} {
		l = append(l, text(s))
	}
	return l
}

// unplain are values that may not stand in an expression: some that may not be, and sums under way.
func unplain() []api.Value {
	return []api.Value{
		{Kind: api.VSum}, {Kind: api.VSum, N: 1}, {Kind: api.VSum, U: 5}, {Kind: -1}, {Kind: 5}, {Kind: math.MaxInt}, {N: 1}, {U: 1}, {S: "a"},
		{Kind: api.VBool, N: 2}, {Kind: api.VBool, N: -1}, {Kind: api.VBool, U: 1}, {Kind: api.VInt, N: 1, U: 1}, {Kind: api.VInt, S: "a"},
		{Kind: api.VText, N: 1, S: "a"}, {Kind: api.VText, U: 1}, text(strings.Repeat("x", api.MaxText+1)), text(strings.Repeat("x", 1<<16)),
	}
}

// leaf is a node without parts; all nodes of these tests are laid without the program.
func leaf(tag int) api.ENode {
	return api.ENode{Tag: tag, L: -1, R: -1}
}

func node(tag, l, r int) api.ENode {
	return api.ENode{Tag: tag, L: l, R: r}
}

func literal(v api.Value) api.ENode {
	return api.ENode{Tag: api.NLit, L: -1, R: -1, Value: v}
}

func column(n int) api.ENode {
	return api.ENode{Tag: api.ECol, L: -1, R: -1, Col: n}
}

func nodes(l ...api.ENode) api.Expr {
	return api.Expr{Nodes: l}
}

func lit(v api.Value) api.Expr {
	return nodes(literal(v))
}

func num(n int64) api.Expr {
	return lit(number(n))
}

func col(n int) api.Expr {
	return nodes(column(n))
}

// Tags by how many parts they have, and such as no node of an expression has.
var (
	noParts = []int{api.NLit, api.ECol}
	onePart = []int{api.NNeg, api.NNot, api.NIsNull, api.NNotNull}
	sums    = []int{api.NAdd, api.NSub, api.NMul, api.NDiv}
	tests   = []int{api.NEq, api.NNe, api.NLt, api.NLe, api.NGt, api.NGe}
	twos    = slices.Concat(sums, tests, []int{api.NAnd, api.NOr})
	noTags  = []int{0, -1, api.NCountAll, api.NCount, api.NSum, api.NMin, api.NMax, api.NOr + 1, 256 + api.NNeg, 1<<32 + api.NAdd, math.MaxInt, math.MinInt}
)

// on is the expression of a tag over parts, laid without the program.
func on(tag int, parts ...api.Expr) api.Expr {
	root := leaf(tag)
	var l []api.ENode
	for k, p := range parts {
		by := len(l)
		for _, n := range p.Nodes {
			if n.L >= 0 {
				n.L += by
			}
			if n.R >= 0 {
				n.R += by
			}
			l = append(l, n)
		}
		if k == 0 {
			root.L = len(l) - 1
		} else {
			root.R = len(l) - 1
		}
	}
	return nodes(append(l, root)...)
}

// chain is an expression of that many nodes, each but the first with one part.
func chain(count int) api.Expr {
	l := []api.ENode{column(0)}
	for len(l) < count {
		l = append(l, node(api.NNot, len(l)-1, -1))
	}
	return nodes(l...)
}

// wide is an expression of that many nodes, as flat as it can be.
func wide(count int) api.Expr {
	switch count {
	case 1:
		return col(0)
	case 2:
		return on(api.NNot, col(0))
	}
	half := (count - 1) / 2
	return on(api.NOr, wide(half), wide(count-1-half))
}

// leaning is an expression of an odd count of nodes, the column 0 below all of its NAnds, which lean to one side.
func leaning(count int, left bool) api.Expr {
	var l []api.ENode
	if left {
		l = append(l, column(0))
		for len(l) < count {
			l = append(l, column(1), node(api.NAnd, len(l)-1, len(l)))
		}
		return nodes(l...)
	}
	for range count / 2 {
		l = append(l, column(1))
	}
	l = append(l, column(0))
	for k := count/2 - 1; k >= 0; k-- {
		l = append(l, node(api.NAnd, k, len(l)-1))
	}
	return nodes(l...)
}

// full has as many nodes as there may be.
var full = wide(api.MaxExpr)

// beginByRule is where what stands below the node of a place begins, reckoned from the root on; false, if that is in no order.
func beginByRule(l []api.ENode, place int) (int, bool) {
	if place < 0 {
		return 0, false
	}
	n := l[place]
	switch {
	case slices.Contains(noParts, n.Tag):
		return place, n.L == -1 && n.R == -1
	case slices.Contains(onePart, n.Tag) && n.L == place-1 && n.R == -1:
		return beginByRule(l, n.L)
	case slices.Contains(twos, n.Tag) && n.R == place-1:
		if middle, ok := beginByRule(l, n.R); ok && n.L == middle-1 {
			return beginByRule(l, n.L)
		}
	}
	return 0, false
}

// below is the expression whose root is the node of a place, reckoned from the root on.
func below(x api.Expr, place int) api.Expr {
	n := x.Nodes[place]
	switch {
	case n.L < 0:
		return nodes(n)
	case n.R < 0:
		return on(n.Tag, below(x, n.L))
	}
	return on(n.Tag, below(x, n.L), below(x, n.R))
}

// same holds expressions against one another without the program.
func same(a, b api.Expr) bool {
	return slices.Equal(a.Nodes, b.Nodes)
}

func isExpr(t *testing.T, x api.Expr) {
	t.Helper()
	if e := expr.Check(x); e != api.OK {
		t.Errorf("%v: %v", x, e)
	}
}

// isNone holds that an answer is an error, and beside it no expression.
func isNone(t *testing.T, want api.Errno) func(api.Expr, api.Errno) {
	t.Helper()
	return func(got api.Expr, e api.Errno) {
		t.Helper()
		if e != want || len(got.Nodes) != 0 {
			t.Errorf("%v, %v, not %v", got, e, want)
		}
	}
}

// is holds that an answer is an expression.
func is(t *testing.T, want api.Expr) func(api.Expr, api.Errno) {
	t.Helper()
	return func(got api.Expr, e api.Errno) {
		t.Helper()
		if e != api.OK || !same(got, want) {
			t.Errorf("%v, %v, not %v", got, e, want)
		}
	}
}

// isNoExpr holds for all calls, in each place where an expression is handed in, and whatever else is wrong.
func isNoExpr(t *testing.T, x api.Expr) {
	t.Helper()
	if e := expr.Check(x); e != api.ErrExpr {
		t.Errorf("%v: %v", x, e)
	}
	refused := isNone(t, api.ErrExpr)
	good := col(0)
	for _, tag := range []int{api.NNeg, api.NIsNull, api.NAdd, api.NAnd, api.NLit, api.NSum, 0} {
		refused(expr.One(tag, x))
		refused(expr.Two(tag, x, good))
		refused(expr.Two(tag, good, x))
		refused(expr.Two(tag, x, x))
	}
	for _, kinds := range [][]int{nil, {api.VInt}, {api.VBool, api.VText, 7}, {-1}} {
		if k, e := expr.Kind(x, kinds); e != api.ErrExpr || k != 0 {
			t.Errorf("%v over %v is of the kind %v, %v", x, kinds, k, e)
		}
	}
	for _, r := range []api.Row{nil, {number(1), number(0)}, {{Kind: -1}}, make(api.Row, api.MaxWidth+1)} {
		if v, e := expr.Eval(x, r); e != api.ErrExpr || v != null {
			t.Errorf("%v of %v comes to %v, %v", x, r, v, e)
		}
	}
	if expr.Safe(x) || len(expr.Cols(x)) != 0 || len(expr.Ands(x)) != 0 {
		t.Errorf("%v: %v, %v, %v", x, expr.Safe(x), expr.Cols(x), expr.Ands(x))
	}
	for _, l := range [][]api.Expr{{x}, {x, good}, {good, x}, {full, full, x}, {x, x}} {
		refused(expr.All(l))
		refused(expr.Put(good, l))
		refused(expr.Put(col(2), l))
		refused(expr.Put(num(5), l))
		refused(expr.Put(x, l))
	}
	for _, l := range [][]api.Expr{nil, {good}, {full, full, full}} {
		refused(expr.Put(x, l))
	}
	for _, by := range []int{0, 1, -1, api.MaxWidth, math.MinInt} {
		refused(expr.Shift(x, by))
	}
	for _, left := range []int{0, 1, -1, api.MaxWidth} {
		if a, b, ok := expr.Pair(x, left); a != 0 || b != 0 || ok {
			t.Errorf("%v is the pair %v, %v, %v", x, a, b, ok)
		}
	}
}

// P10.1: a node of each tag, with its parts, without them, and with others.
func TestEachTag(t *testing.T) {
	for tag := -3; tag <= api.NOr+3; tag++ {
		parts := -1
		switch {
		case slices.Contains(noParts, tag):
			parts = 0
		case slices.Contains(onePart, tag):
			parts = 1
		case slices.Contains(twos, tag):
			parts = 2
		}
		for has := range 4 {
			for l := -2; l <= has+1; l++ {
				for r := -2; r <= has+1; r++ {
					x := nodes(append(slices.Repeat([]api.ENode{literal(yes)}, has), node(tag, l, r))...)
					if has == parts && (has < 1 && l == -1 || has > 0 && l == 0) && (has < 2 && r == -1 || has == 2 && r == 1) {
						isExpr(t, x)
					} else {
						isNoExpr(t, x)
					}
				}
			}
		}
	}
}

// P10.1: no nodes; a tag that is none, alone and over parts, as the root and below it.
func TestNoExprs(t *testing.T) {
	isNoExpr(t, api.Expr{})
	isNoExpr(t, nodes([]api.ENode{}...))
	isNoExpr(t, api.Expr{Nodes: make([]api.ENode, 0, 5)})
	for _, tag := range noTags {
		isNoExpr(t, nodes(leaf(tag)))
		isNoExpr(t, on(tag, col(0)))
		isNoExpr(t, on(tag, col(0), col(0)))
		isNoExpr(t, on(api.NNot, nodes(leaf(tag))))
		isNoExpr(t, on(api.NAdd, col(0), nodes(leaf(tag))))
		isNoExpr(t, on(api.NAdd, on(tag, col(0)), col(0)))
	}
}

// P10.1: each literal that may be, and each that may not, alone and as a part.
func TestLiterals(t *testing.T) {
	for _, v := range plain() {
		isExpr(t, lit(v))
		isExpr(t, on(api.NIsNull, lit(v)))
		isExpr(t, on(api.NEq, col(0), lit(v)))
	}
	for _, v := range unplain() {
		isNoExpr(t, lit(v))
		isNoExpr(t, on(api.NIsNull, lit(v)))
		isNoExpr(t, on(api.NEq, col(0), lit(v)))
		isNoExpr(t, on(api.NEq, lit(v), col(0)))
	}
	for k := range 256 {
		isExpr(t, lit(text("a"+string([]byte{byte(k)}))))
	}
}

// P10.1: columns from 0 to MaxWidth less 1, and numbers that are none.
func TestColumns(t *testing.T) {
	for n := range api.MaxWidth {
		isExpr(t, col(n))
		isExpr(t, on(api.NSub, num(1), col(n)))
	}
	for _, n := range []int{-1, -2, api.MaxWidth, api.MaxWidth + 1, 256, 1 << 32, math.MaxInt, math.MinInt} {
		isNoExpr(t, col(n))
		isNoExpr(t, on(api.NSub, num(1), col(n)))
		isNoExpr(t, on(api.NSub, col(n), num(1)))
	}
}

// P10.1: what does not count of a tag, and is not zero.
func TestWhatDoesNotCount(t *testing.T) {
	for tag := api.NLit; tag <= api.NOr; tag++ {
		var x api.Expr
		switch {
		case slices.Contains(noParts, tag):
			x = nodes(leaf(tag))
		case slices.Contains(onePart, tag):
			x = on(tag, num(1))
		case slices.Contains(twos, tag):
			x = on(tag, num(1), num(2))
		default:
			continue
		}
		isExpr(t, x)
		root := &x.Nodes[len(x.Nodes)-1]
		held := func(changed api.ENode) {
			was := *root
			*root = changed
			isNoExpr(t, nodes(slices.Clone(x.Nodes)...))
			isNoExpr(t, on(api.NIsNull, x))
			*root = was
		}
		if tag != api.ECol {
			for _, n := range []int{1, -1, 5, api.MaxWidth, math.MaxInt, math.MinInt} {
				changed := *root
				changed.Col = n
				held(changed)
			}
		}
		if tag != api.NLit {
			for _, v := range slices.Concat(plain(), unplain()) {
				if v == null {
					continue
				}
				changed := *root
				changed.Value = v
				held(changed)
			}
		}
	}
}

// P10.1: nodes in another order, and such as do not stand below the root, or below two.
func TestOrder(t *testing.T) {
	a, b, c := column(0), column(1), column(2)
	isExpr(t, nodes(a, b, node(api.NAdd, 0, 1), c, node(api.NSub, 2, 3)))
	isExpr(t, nodes(a, b, c, node(api.NSub, 1, 2), node(api.NAdd, 0, 3)))
	isExpr(t, nodes(a, node(api.NNeg, 0, -1), b, node(api.NNeg, 2, -1), node(api.NAdd, 1, 3)))
	for _, x := range []api.Expr{
		nodes(a, b), nodes(a, a, b), nodes(a, b, node(api.NNeg, 1, -1)), nodes(a, b, node(api.NNeg, 0, -1)), // nodes beside the root
		nodes(a, node(api.NNeg, 0, -1), b), nodes(a, b, node(api.NAdd, 0, 1), c), nodes(node(api.NNeg, 1, -1), a), // the root is not the last one
		nodes(a, b, node(api.NAdd, 1, 0)), nodes(node(api.NAdd, 1, 2), a, b), nodes(a, node(api.NAdd, 0, 2), b), // parts the other way round, and behind
		nodes(a, node(api.NAdd, 0, 0)), nodes(a, b, node(api.NAdd, 0, 0)), nodes(a, b, node(api.NAdd, 1, 1)), // one part twice
		nodes(b, a, c, node(api.NSub, 0, 2), node(api.NAdd, 1, 3)), nodes(a, b, c, node(api.NAdd, 0, 1), node(api.NSub, 3, 2)), // right ahead of left
		nodes(a, b, c, node(api.NSub, 1, 2), node(api.NAdd, 0, 2)), nodes(a, b, c, node(api.NSub, 1, 2), node(api.NAdd, 1, 3)), // another one's
		nodes(a, b, node(api.NNeg, 0, -1), node(api.NAdd, 2, 1)), nodes(a, b, node(api.NNeg, 0, -1), node(api.NAdd, 1, 2)), // what is between
		nodes(a, b, c, node(api.NAdd, 0, 2), node(api.NSub, 3, 1)), nodes(a, b, c, node(api.NAdd, 1, 2)), nodes(a, b, c, node(api.NAdd, 0, 1)),
		nodes(node(api.NNeg, 0, -1)), nodes(a, node(api.NNeg, 1, -1)), nodes(a, node(api.NNeg, 2, -1)), nodes(node(api.NAdd, 0, 0)), nodes(a, node(api.NAdd, 0, 1)), // itself, and a later one
		nodes(a, node(api.NNeg, -1, 0)), nodes(a, node(api.NNeg, 0, 0)), nodes(a, node(api.NNeg, 0, -2)), nodes(a, node(api.NNeg, math.MaxInt, -1)), nodes(a, node(api.NNeg, math.MinInt, -1)),
		nodes(a, b, node(api.NAdd, 0, math.MaxInt)), nodes(a, b, node(api.NAdd, 0, 2)), nodes(a, b, node(api.NAdd, 0, 3)), nodes(a, b, node(api.NAdd, -1, 1)), nodes(a, b, node(api.NAdd, 0, -1)), nodes(a, b, node(api.NAdd, math.MinInt, 1)),
		nodes(node(api.NNeg, -1, -1)), nodes(node(api.NAdd, -1, -1)), nodes(a, node(api.NAdd, -1, 0)), nodes(a, node(api.NAdd, 0, -1)), nodes(node(api.NLit, -2, -1)), nodes(node(api.ECol, -1, 0)), // a part that is missing
	} {
		isNoExpr(t, x)
	}
}

// P10.1: all rows of up to three nodes (of a tag of no parts, one, two, and places of parts near to them), held against the reckoning from the root on.
func TestExprsByRule(t *testing.T) {
	var all []api.ENode
	for l := -1; l <= 2; l++ {
		for r := -1; r <= 2; r++ {
			all = append(all, node(api.ECol, l, r), node(api.NNot, l, r), node(api.NEq, l, r))
		}
	}
	right := 0
	held := func(l ...api.ENode) {
		begin, ok := beginByRule(l, len(l)-1)
		ok = ok && begin == 0
		if e := expr.Check(nodes(l...)); (e == api.OK) != ok || e != api.OK && e != api.ErrExpr {
			t.Errorf("%v: %v", l, e)
		}
		if ok {
			right++
		}
	}
	for _, a := range all {
		held(a)
		for _, b := range all {
			held(a, b)
			for _, c := range all {
				held(a, b, c)
			}
		}
	}
	if right != 4 {
		t.Errorf("%d expressions", right)
	}
}

// anyExpr is an expression of a depth of up to one more than that, over so many columns, of parts of whatever kinds.
func anyExpr(r *rand.Rand, depth, columns int) api.Expr {
	kind := r.Intn(4)
	if depth == 0 {
		kind = 0
	}
	switch kind {
	case 0:
		if values := plain(); columns == 0 || r.Intn(2) == 0 {
			return lit(values[r.Intn(len(values))])
		}
		return col(r.Intn(columns))
	case 1:
		return on(onePart[r.Intn(len(onePart))], anyExpr(r, depth-1, columns))
	}
	return on(twos[r.Intn(len(twos))], anyExpr(r, depth-1, columns), anyExpr(r, depth-1, columns))
}

// P10.1: greater expressions, with one place of them another one.
func TestSpoiledByRule(t *testing.T) {
	r := rand.New(rand.NewSource(101))
	right, wrong := 0, 0
	for range 20000 {
		x := anyExpr(r, 4, 3)
		isExpr(t, x)
		l := slices.Clone(x.Nodes)
		at := r.Intn(len(l))
		switch r.Intn(5) {
		case 0:
			l[at].L = r.Intn(len(l)+2) - 1
		case 1:
			l[at].R = r.Intn(len(l)+2) - 1
		case 2:
			other := r.Intn(len(l))
			l[at], l[other] = l[other], l[at]
		case 3:
			l[at].Tag = r.Intn(api.NOr + 2)
			l[at].Col, l[at].Value = 0, null
		default:
			l = slices.Delete(l, at, at+1)
		}
		begin, ok := beginByRule(l, len(l)-1)
		if begin == 0 && ok {
			isExpr(t, nodes(l...))
			right++
		} else {
			if e := expr.Check(nodes(l...)); e != api.ErrExpr {
				t.Errorf("%v: %v", l, e)
			}
			wrong++
		}
	}
	if right < 1000 || wrong < 1000 {
		t.Error(right, wrong)
	}
}

// P10.1: a node, 1000 of them, and more, of whatever shape.
func TestLimits(t *testing.T) {
	for _, count := range []int{1, 2, 3, api.MaxExpr - 1, api.MaxExpr} {
		isExpr(t, wide(count))
		isExpr(t, chain(count))
	}
	for _, left := range []bool{true, false} {
		isExpr(t, leaning(api.MaxExpr-1, left))
		isExpr(t, on(api.NNot, leaning(api.MaxExpr-1, left)))
		isNoExpr(t, leaning(api.MaxExpr+1, left))
	}
	for _, more := range []int{1, 2, 3, 1000} {
		isNoExpr(t, wide(api.MaxExpr+more))
		isNoExpr(t, chain(api.MaxExpr+more))
	}
	isNoExpr(t, nodes(slices.Repeat([]api.ENode{column(0)}, 1<<16)...))
}

// P10.1: Same asks each field of each node, and nothing else.
func TestSame(t *testing.T) {
	held := func(a, b api.Expr, want bool) {
		t.Helper()
		if expr.Same(a, b) != want || expr.Same(b, a) != want {
			t.Errorf("%v, %v: not %v", a, b, want)
		}
	}
	held(api.Expr{}, nodes([]api.ENode{}...), true)
	held(api.Expr{}, col(0), false)
	x := on(api.NAnd, on(api.NEq, col(3), lit(text("a"))), lit(yes))
	held(x, nodes(slices.Clone(x.Nodes)...), true)
	for k := range x.Nodes {
		held(x, nodes(x.Nodes[:k]...), false)
		held(nodes(x.Nodes[:k]...), nodes(slices.Clone(x.Nodes[:k])...), true)
		for _, change := range []func(*api.ENode){
			func(n *api.ENode) { n.Tag++ }, func(n *api.ENode) { n.L++ }, func(n *api.ENode) { n.R-- }, func(n *api.ENode) { n.Col++ },
			func(n *api.ENode) { n.Value.Kind++ }, func(n *api.ENode) { n.Value.N++ }, func(n *api.ENode) { n.Value.U++ }, func(n *api.ENode) { n.Value.S += "b" },
		} {
			y := nodes(slices.Clone(x.Nodes)...)
			change(&y.Nodes[k])
			held(x, y, false)
			held(y, nodes(slices.Clone(y.Nodes)...), true)
		}
	}
	held(on(api.NAdd, col(0), col(1)), on(api.NAdd, col(1), col(0)), false)
	held(nodes(leaf(-5)), nodes(leaf(-5)), true)
	held(nodes(leaf(-5)), nodes(leaf(-6)), false)
	held(wide(2000), wide(2000), true)
	held(wide(2000), wide(2001), false)
}
