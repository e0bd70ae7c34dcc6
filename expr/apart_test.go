package expr_test

import (
	"math"
	"math/rand"
	"slices"
	"testing"

	"bowsprit/api"
	"bowsprit/expr"
)

// P10.5: each tag alone, at the root and below it.
func TestSafe(t *testing.T) {
	held := func(x api.Expr, want bool) {
		t.Helper()
		if expr.Safe(x) != want {
			t.Errorf("%v: not %v", x, want)
		}
	}
	for _, v := range plain() {
		held(lit(v), true)
	}
	for n := range api.MaxWidth {
		held(col(n), true)
	}
	for _, tag := range slices.Concat(onePart, twos) {
		unsafe := tag == api.NNeg || slices.Contains(sums, tag)
		x := on(tag, col(0))
		if slices.Contains(twos, tag) {
			x = on(tag, num(1), num(1))
		}
		held(x, !unsafe)
		held(on(api.NIsNull, x), !unsafe)
		held(on(api.NAnd, x, lit(no)), !unsafe)
		held(on(api.NOr, lit(yes), on(api.NEq, col(3), x)), !unsafe)
		held(on(api.NNeg, x), false)
		held(on(api.NMul, lit(yes), x), false)
	}
	held(on(api.NNot, num(5)), true)
	held(on(api.NEq, num(5), lit(text("a"))), true)
	held(full, true)
	held(chain(api.MaxExpr-1), true)
	held(on(api.NNeg, chain(api.MaxExpr-1)), false)
}

// P10.5: columns any often, in any order; of whatever expression.
func TestCols(t *testing.T) {
	held := func(x api.Expr, want ...int) {
		t.Helper()
		if got := expr.Cols(x); !slices.Equal(got, want) {
			t.Errorf("%v: %v, not %v", x, got, want)
		}
	}
	held(num(5))
	held(lit(null))
	held(on(api.NNeg, num(5)))
	for n := range api.MaxWidth {
		held(col(n), n)
		held(on(api.NIsNull, col(n)), n)
		held(on(api.NEq, col(n), col(n)), n)
		held(on(api.NEq, col(n), num(3)), n)
		for m := range n {
			held(on(api.NEq, col(n), col(m)), m, n)
			held(on(api.NAnd, col(m), on(api.NEq, col(n), col(m))), m, n)
		}
	}
	r := rand.New(rand.NewSource(106))
	for range 2000 {
		x := anyExpr(r, 6, api.MaxWidth)
		var want []int
		for n := range api.MaxWidth {
			if slices.ContainsFunc(x.Nodes, func(k api.ENode) bool { return k.Tag == api.ECol && k.Col == n }) {
				want = append(want, n)
			}
		}
		held(x, want...)
	}
	held(full, 0)
	held(leaning(api.MaxExpr-1, true), 0, 1)
}

// andsByRule are the ands of the expression whose root is the node of a place, reckoned from the root on.
func andsByRule(x api.Expr, place int) []api.Expr {
	n := x.Nodes[place]
	if n.Tag != api.NAnd {
		return []api.Expr{below(x, place)}
	}
	return append(andsByRule(x, n.L), andsByRule(x, n.R)...)
}

// isSplit holds what the ands of an expression are, and that these are put together from the left on.
func isSplit(t *testing.T, x api.Expr, want ...api.Expr) {
	t.Helper()
	got := expr.Ands(x)
	if !slices.EqualFunc(got, want, same) {
		t.Errorf("%v: %v, not %v", x, got, want)
		return
	}
	for _, part := range got {
		isExpr(t, part)
	}
	all := want[0]
	for _, next := range want[1:] {
		all = on(api.NAnd, all, next)
	}
	is(t, all)(expr.All(want))
	is(t, all)(expr.All(got))
}

// P10.6: none, one, several, to the left and to the right; and none below another tag.
func TestAnds(t *testing.T) {
	a, b, c, d := on(api.NEq, col(0), num(1)), col(1), on(api.NNot, on(api.NLt, col(2), col(0))), lit(text("a"))
	and := func(l, r api.Expr) api.Expr { return on(api.NAnd, l, r) }
	for _, x := range []api.Expr{a, b, c, d, lit(yes), on(api.NOr, a, b), on(api.NOr, and(a, b), c), on(api.NNot, and(a, b)), on(api.NIsNull, and(and(a, b), c)), on(api.NEq, and(a, b), and(b, c))} {
		isSplit(t, x, x)
		isSplit(t, and(x, x), x, x)
		isSplit(t, and(x, a), x, a)
		isSplit(t, and(a, x), a, x)
	}
	isSplit(t, and(and(a, b), c), a, b, c)
	isSplit(t, and(a, and(b, c)), a, b, c)
	isSplit(t, and(and(a, b), and(c, d)), a, b, c, d)
	isSplit(t, and(and(and(a, b), c), d), a, b, c, d)
	isSplit(t, and(a, and(b, and(c, d))), a, b, c, d)
	isSplit(t, and(a, and(and(b, c), d)), a, b, c, d)
	isSplit(t, and(and(a, and(b, c)), d), a, b, c, d)
	isSplit(t, and(and(d, d), d), d, d, d)
	isSplit(t, and(on(api.NOr, and(a, b), c), and(d, a)), on(api.NOr, and(a, b), c), d, a)
}

// P10.6: whatever the expression.
func TestAndsByRule(t *testing.T) {
	r := rand.New(rand.NewSource(107))
	for range 2000 {
		x := anyExpr(r, 2, 4)
		for range r.Intn(8) {
			switch r.Intn(4) {
			case 0:
				x = on(api.NOr, x, anyExpr(r, 1, 4))
			case 1:
				x = on(api.NAnd, anyExpr(r, 2, 4), x)
			default:
				x = on(api.NAnd, x, anyExpr(r, 2, 4))
			}
		}
		isSplit(t, x, andsByRule(x, len(x.Nodes)-1)...)
	}
}

// P10.6: 500 of them, to the left and to the right, and All of these: 999 nodes.
func TestAndsOfGreat(t *testing.T) {
	want := slices.Repeat([]api.Expr{col(1)}, 500)
	want[0] = col(0)
	isSplit(t, leaning(api.MaxExpr-1, true), want...)
	want[0], want[499] = col(1), col(0)
	isSplit(t, leaning(api.MaxExpr-1, false), want...)
	isSplit(t, full, full)
	isSplit(t, chain(api.MaxExpr), chain(api.MaxExpr))
}

// P10.6: 1000 nodes, and one more; none; what may not be goes ahead of all.
func TestAll(t *testing.T) {
	long, none := isNone(t, api.ErrLong), isNone(t, api.ErrArg)
	none(expr.All(nil))
	none(expr.All([]api.Expr{}))
	is(t, full)(expr.All([]api.Expr{full}))
	long(expr.All([]api.Expr{full, col(0)}))
	long(expr.All([]api.Expr{col(0), full}))
	long(expr.All([]api.Expr{full, full}))
	for _, n := range []int{1, 2, 3, 500, 997, 998} {
		a, b := wide(n), chain(api.MaxExpr-1-n)
		is(t, on(api.NAnd, a, b))(expr.All([]api.Expr{a, b}))
		is(t, on(api.NAnd, b, a))(expr.All([]api.Expr{b, a}))
		long(expr.All([]api.Expr{a, chain(api.MaxExpr - n)}))
		long(expr.All([]api.Expr{chain(api.MaxExpr - n), a}))
	}
	is(t, on(api.NAnd, on(api.NAnd, col(0), chain(996)), col(1)))(expr.All([]api.Expr{col(0), chain(996), col(1)}))
	long(expr.All([]api.Expr{col(0), chain(997), col(1)}))
	long(expr.All(slices.Repeat([]api.Expr{col(0)}, 501)))
	long(expr.All(append(slices.Repeat([]api.Expr{col(0)}, 500), chain(2))))
	long(expr.All(slices.Repeat([]api.Expr{col(0)}, 1<<16)))
	for _, bad := range []api.Expr{{}, nodes(leaf(0)), wide(api.MaxExpr + 1), nodes(column(0), column(1)), lit(api.Value{Kind: api.VSum})} {
		refused := isNone(t, api.ErrExpr)
		refused(expr.All([]api.Expr{bad}))
		refused(expr.All([]api.Expr{bad, full, full}))
		refused(expr.All([]api.Expr{full, full, bad}))
		refused(expr.All([]api.Expr{full, bad, full}))
		refused(expr.All(append(slices.Repeat([]api.Expr{col(0)}, 501), bad)))
	}
}

// putByRule lays an expression in the place of each column, from the root on.
func putByRule(x api.Expr, place int, l []api.Expr) api.Expr {
	n := x.Nodes[place]
	switch {
	case n.Tag == api.ECol:
		return l[n.Col]
	case n.L < 0:
		return nodes(n)
	case n.R < 0:
		return on(n.Tag, putByRule(x, n.L, l))
	}
	return on(n.Tag, putByRule(x, n.L, l), putByRule(x, n.R, l))
}

// P10.7: a column that is there twice, none, parts of one node and of many.
func TestPut(t *testing.T) {
	a, b := on(api.NAdd, col(5), num(2)), on(api.NNeg, on(api.NMul, col(0), on(api.NSub, col(1), col(1))))
	is(t, a)(expr.Put(col(0), []api.Expr{a}))
	is(t, b)(expr.Put(col(1), []api.Expr{a, b}))
	is(t, b)(expr.Put(col(15), append(slices.Repeat([]api.Expr{a}, 15), b)))
	is(t, num(5))(expr.Put(num(5), nil))
	is(t, num(5))(expr.Put(num(5), []api.Expr{a, b}))
	is(t, on(api.NNot, on(api.NLt, num(5), lit(null))))(expr.Put(on(api.NNot, on(api.NLt, num(5), lit(null))), []api.Expr{}))
	is(t, on(api.NDiv, a, a))(expr.Put(on(api.NDiv, col(0), col(0)), []api.Expr{a}))
	is(t, on(api.NDiv, b, a))(expr.Put(on(api.NDiv, col(1), col(0)), []api.Expr{a, b}))
	is(t, on(api.NDiv, col(1), col(0)))(expr.Put(on(api.NDiv, col(0), col(1)), []api.Expr{col(1), col(0)}))
	is(t, on(api.NSub, on(api.NNeg, a), on(api.NAdd, num(1), on(api.NMul, b, a))))(expr.Put(on(api.NSub, on(api.NNeg, col(1)), on(api.NAdd, num(1), on(api.NMul, col(0), col(1)))), []api.Expr{b, a}))
	is(t, lit(text("a")))(expr.Put(col(16-1), append(slices.Repeat([]api.Expr{a}, 15), lit(text("a")), b, b)))
	r := rand.New(rand.NewSource(108))
	for range 2000 {
		x := anyExpr(r, 4, 3)
		l := []api.Expr{anyExpr(r, 3, api.MaxWidth), anyExpr(r, r.Intn(3), api.MaxWidth), anyExpr(r, 0, 2), anyExpr(r, 1, 2)}
		want := putByRule(x, len(x.Nodes)-1, l)
		if len(want.Nodes) > api.MaxExpr {
			t.Fatal(len(want.Nodes))
		}
		is(t, want)(expr.Put(x, l))
	}
}

// P10.7: itself, with each column in its own place.
func TestPutItself(t *testing.T) {
	var own []api.Expr
	for n := range api.MaxWidth {
		own = append(own, col(n))
	}
	r := rand.New(rand.NewSource(109))
	for range 500 {
		x := anyExpr(r, 6, api.MaxWidth)
		is(t, x)(expr.Put(x, own))
	}
	is(t, full)(expr.Put(full, own))
}

// P10.7: 1000 nodes, and one more; columns that are none of l's places; which of both is asked first.
func TestPutWrong(t *testing.T) {
	long, none := isNone(t, api.ErrLong), isNone(t, api.ErrArg)
	is(t, full)(expr.Put(col(0), []api.Expr{full}))
	is(t, full)(expr.Put(full, []api.Expr{col(0)}))
	is(t, chain(api.MaxExpr))(expr.Put(on(api.NNot, col(0)), []api.Expr{chain(api.MaxExpr - 1)}))
	long(expr.Put(on(api.NNot, col(0)), []api.Expr{full}))
	long(expr.Put(full, []api.Expr{on(api.NNot, col(0))}))
	for n := 1; n < 40; n++ {
		x := on(api.NAdd, col(0), on(api.NAdd, col(0), chain(n)))
		each := (api.MaxExpr - (n - 1) - 2) / 3
		rest := api.MaxExpr - (n - 1) - 2 - 3*each
		l := []api.Expr{chain(each)}
		is(t, putByRule(x, len(x.Nodes)-1, l))(expr.Put(x, l))
		long(expr.Put(x, []api.Expr{chain(each + 1)}))
		for range rest {
			x = on(api.NNot, x)
		}
		is(t, putByRule(x, len(x.Nodes)-1, l))(expr.Put(x, l))
		long(expr.Put(on(api.NNot, x), l))
	}
	long(expr.Put(leaning(api.MaxExpr-1, true), []api.Expr{full, full}))
	for n := range api.MaxWidth {
		for count := range n + 1 {
			l := slices.Repeat([]api.Expr{full}, count)
			none(expr.Put(col(n), l))
			none(expr.Put(on(api.NAnd, col(0), col(n)), l))
			none(expr.Put(on(api.NAnd, on(api.NIsNull, col(n)), on(api.NEq, col(0), col(0))), l))
		}
		is(t, full)(expr.Put(col(n), slices.Repeat([]api.Expr{full}, n+1)))
		long(expr.Put(on(api.NNot, col(n)), slices.Repeat([]api.Expr{full}, n+1)))
	}
}

// P10.7: each column by each number, to just the edge and one beyond it, and to where numbers go round.
func TestShift(t *testing.T) {
	none := isNone(t, api.ErrArg)
	far := []int{100, -100, 1 << 32, -1 << 32, math.MaxInt, math.MaxInt - 15, math.MinInt, math.MinInt + 15, math.MaxInt - api.MaxWidth}
	for by := -20; by <= 20; by++ {
		for n := range api.MaxWidth {
			for m := range api.MaxWidth {
				x, want := on(api.NAnd, on(api.NNot, col(n)), on(api.NEq, num(3), col(m))), on(api.NAnd, on(api.NNot, col(n+by)), on(api.NEq, num(3), col(m+by)))
				if min(n, m)+by < 0 || max(n, m)+by > 15 {
					none(expr.Shift(x, by))
				} else {
					is(t, want)(expr.Shift(x, by))
				}
			}
			if n+by < 0 || n+by > 15 {
				none(expr.Shift(col(n), by))
			} else {
				is(t, col(n+by))(expr.Shift(col(n), by))
			}
		}
		is(t, on(api.NDiv, num(1), lit(null)))(expr.Shift(on(api.NDiv, num(1), lit(null)), by))
	}
	for _, by := range far {
		for n := range api.MaxWidth {
			none(expr.Shift(col(n), by))
			none(expr.Shift(on(api.NSub, num(1), col(n)), by))
		}
		is(t, num(5))(expr.Shift(num(5), by))
		is(t, on(api.NIsNull, lit(text("a"))))(expr.Shift(on(api.NIsNull, lit(text("a"))), by))
	}
	r := rand.New(rand.NewSource(110))
	for range 500 {
		x := anyExpr(r, 6, 8)
		var up []api.Expr
		for n := range 8 {
			up = append(up, col(n+8))
		}
		want := putByRule(x, len(x.Nodes)-1, up)
		is(t, x)(expr.Shift(x, 0))
		is(t, want)(expr.Shift(x, 8))
		is(t, x)(expr.Shift(want, -8))
	}
	is(t, putByRule(full, api.MaxExpr-1, []api.Expr{col(15)}))(expr.Shift(full, 15))
}

// P10.8: each two columns, and each left.
func TestPair(t *testing.T) {
	held := func(x api.Expr, left, a, b int, ok bool) {
		t.Helper()
		if l, r, is := expr.Pair(x, left); l != a || r != b || is != ok {
			t.Errorf("%v, %v: %v, %v, %v, not %v, %v, %v", x, left, l, r, is, a, b, ok)
		}
	}
	lefts := []int{math.MinInt, math.MinInt + 15, -100, math.MaxInt, 1 << 32, 100}
	for left := -3; left <= api.MaxWidth+3; left++ {
		lefts = append(lefts, left)
	}
	for n := range api.MaxWidth {
		for m := range api.MaxWidth {
			x := on(api.NEq, col(n), col(m))
			for _, left := range lefts {
				switch {
				case n < left && m >= left:
					held(x, left, n, m-left, true)
				case m < left && n >= left:
					held(x, left, m, n-left, true)
				default:
					held(x, left, 0, 0, false)
				}
			}
		}
	}
}

// P10.8: what is no NEq of two columns.
func TestNoPair(t *testing.T) {
	a, b := col(0), col(1)
	is := on(api.NEq, a, b)
	l := []api.Expr{
		a, b, num(1), lit(null), on(api.NNot, is), on(api.NIsNull, is), on(api.NAnd, is, is), on(api.NAnd, is, lit(yes)), on(api.NEq, is, is), on(api.NEq, is, lit(yes)), on(api.NEq, a, a), on(api.NEq, b, b),
		on(api.NEq, a, num(1)), on(api.NEq, num(1), b), on(api.NEq, num(0), num(1)), on(api.NEq, on(api.NNeg, a), b), on(api.NEq, a, on(api.NNeg, b)), on(api.NEq, a, on(api.NAdd, b, num(0))), on(api.NEq, on(api.NAdd, a, b), num(1)),
		on(api.NNot, on(api.NNot, b)), on(api.NOr, is, a), on(api.NNot, on(api.NNot, is)),
	}
	for _, tag := range twos {
		if tag != api.NEq {
			l = append(l, on(tag, a, b), on(tag, b, a))
		}
	}
	for _, x := range l {
		for left := -1; left <= 3; left++ {
			if l, r, ok := expr.Pair(x, left); l != 0 || r != 0 || ok {
				t.Errorf("%v, %v: %v, %v, %v", x, left, l, r, ok)
			}
		}
	}
}
