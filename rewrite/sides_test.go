package rewrite_test

import (
	"math"
	"testing"

	"bowsprit/api"
	"bowsprit/rewrite"
)

// deals holds to which side each And of a condition goes, in their order.
func deals(t *testing.T, cond api.Expr, left int, outer bool, want [3][]api.Expr) {
	t.Helper()
	toLeft, toRight, stay, e := rewrite.Sides(cond, left, outer)
	if e != api.OK || !same([3][]api.Expr{toLeft, toRight, stay}, want) {
		t.Errorf("%v of %v columns, %v: %v, %v, %v, %v, not %v", showExpr(cond), left, outer, e, toLeft, toRight, stay, want)
	}
	if !same(sidesByRule(cond, left, outer), want) {
		t.Errorf("%v: not so by the rule", showExpr(cond))
	}
}

// P16.3: the chapter's condition, of a join that is not Left and of one that is.
func TestSides(t *testing.T) {
	a, b, c := is(0, 1), eq(0, 2), on(api.NGt, col(2), num(2))
	cond := all(a, b, c)
	deals(t, cond, 2, false, [3][]api.Expr{{a}, {on(api.NGt, col(0), num(2))}, {b}})
	deals(t, cond, 2, true, [3][]api.Expr{{a}, nil, {b, c}})
	deals(t, cond, 3, false, [3][]api.Expr{{a, b, c}, nil, nil})
	deals(t, cond, 3, true, [3][]api.Expr{{a, b, c}, nil, nil})
	deals(t, cond, 0, false, [3][]api.Expr{nil, {a, b, c}, nil})
	deals(t, cond, 0, true, [3][]api.Expr{nil, nil, {a, b, c}})
	deals(t, cond, 1, false, [3][]api.Expr{{a}, {on(api.NGt, col(1), num(2))}, {b}})
	deals(t, b, 2, false, [3][]api.Expr{nil, nil, {b}})
}

// P16.3: of each number of columns on the left, two columns that stand together, or far from one another, or one alone.
func TestSidesOfEachColumn(t *testing.T) {
	for left := range api.MaxWidth + 1 {
		for a := range api.MaxWidth {
			for b := range api.MaxWidth {
				for _, outer := range []bool{false, true} {
					var want [3][]api.Expr
					switch x := eq(a, b); {
					case a < left && b < left:
						want[0] = []api.Expr{x}
					case a >= left && b >= left && !outer:
						want[1] = []api.Expr{eq(a-left, b-left)}
					default:
						want[2] = []api.Expr{x}
					}
					deals(t, eq(a, b), left, outer, want)
				}
			}
		}
	}
}

// P16.3: what asks for no column goes to the left, of whatever width, 0 and MaxWidth too.
func TestSidesOfNoColumn(t *testing.T) {
	for _, x := range []api.Expr{lit(yes), lit(no), lit(null), num(1), on(api.NEq, num(1), num(2)), on(api.NOr, lit(no), on(api.NNot, lit(null))), on(api.NDiv, num(1), num(0))} {
		for left := range api.MaxWidth + 1 {
			deals(t, x, left, false, [3][]api.Expr{{x}, nil, nil})
			deals(t, x, left, true, [3][]api.Expr{{x}, nil, nil})
		}
		deals(t, all(x, is(1, 1), x), 0, false, [3][]api.Expr{{x, x}, {is(1, 1)}, nil})
		deals(t, all(x, is(1, 1), x), 0, true, [3][]api.Expr{{x, x}, nil, {is(1, 1)}})
	}
}

// P16.3: a condition may be of whatever kind, and not safe; nothing is asked of it but that it may be.
func TestSidesOfWhateverKind(t *testing.T) {
	for _, x := range []api.Expr{col(0), num(5), on(api.NAdd, col(0), num(1)), bad(0, 1), on(api.NNeg, lit(text("a"))), on(api.NLt, num(1), lit(yes))} {
		deals(t, x, 1, true, [3][]api.Expr{{x}, nil, nil})
		deals(t, all(x, on(api.NIsNull, col(15))), 1, false, [3][]api.Expr{{x}, {on(api.NIsNull, col(14))}, nil})
	}
	deals(t, all(col(15), col(15)), 15, false, [3][]api.Expr{nil, cols(0, 0), nil})
	deals(t, on(api.NAdd, on(api.NAnd, col(0), col(1)), col(1)), 1, false, [3][]api.Expr{nil, nil, {on(api.NAdd, on(api.NAnd, col(0), col(1)), col(1))}})
}

// isNoSides holds that an answer is an error, and beside it nothing.
func isNoSides(t *testing.T, cond api.Expr, left int, want api.Errno) {
	t.Helper()
	for _, outer := range []bool{false, true} {
		a, b, c, e := rewrite.Sides(cond, left, outer)
		if e != want || len(a)+len(b)+len(c) > 0 {
			t.Errorf("%v of %v columns: %v, %v, %v, %v, not %v", showExpr(cond), left, e, a, b, c, want)
		}
	}
}

// P16.3: an expression that may not be goes ahead of a width that is none.
func TestNoSides(t *testing.T) {
	for _, left := range []int{-1, api.MaxWidth + 1, -2, -api.MaxWidth, math.MaxInt, math.MinInt, 1 << 32, 256} {
		for _, x := range []api.Expr{lit(yes), is(0, 1), eq(0, 15), all(is(0, 1), is(1, 1)), num(1)} {
			isNoSides(t, x, left, api.ErrArg)
		}
		for _, x := range noExprs() {
			isNoSides(t, x, left, api.ErrExpr)
		}
	}
	for _, x := range noExprs() {
		for left := range api.MaxWidth + 1 {
			isNoSides(t, x, left, api.ErrExpr)
		}
	}
}

// P16.1, P16.2: trees that may not be, whatever rule would hold of them; nothing else is answered.
func TestNoTrees(t *testing.T) {
	for _, l := range noTrees() {
		isNone(t, l, api.ErrLogic)
	}
	for _, x := range noExprs() {
		isNone(t, up(tableT(), filter(x)), api.ErrLogic)
		isNone(t, up(tableT(), filter(lit(yes)), filter(x)), api.ErrLogic)
		isNone(t, up(tableT(), filter(x), filter(lit(yes))), api.ErrLogic)
		isNone(t, up(tableT(), project(x), project(num(1))), api.ErrLogic)
		isNone(t, up(both(false), filter(x)), api.ErrLogic)
		isNone(t, up(tree(join(true, x), tableT(), tableU()), filter(is(0, 1))), api.ErrLogic)
	}
}
