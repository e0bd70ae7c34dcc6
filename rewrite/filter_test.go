package rewrite_test

import (
	"testing"

	"bowsprit/api"
	"bowsprit/rewrite"
)

// P16.1, P16.2: the chapter's examples.
func TestExamples(t *testing.T) {
	cond := all(is(0, 1), eq(0, 2), on(api.NGt, col(2), num(2)))
	inner := tree(join(false, lit(yes)), up(tableT(), filter(is(0, 1))), up(tableU(), filter(on(api.NGt, col(0), num(2)))))
	becomes(t, up(both(false), filter(cond)), up(inner, filter(eq(0, 2))))
	outer := tree(join(true, lit(yes)), up(tableT(), filter(is(0, 1))), tableU())
	becomes(t, up(both(true), filter(cond)), up(outer, filter(all(eq(0, 2), on(api.NGt, col(2), num(2))))))
	stays(t, up(both(false), filter(all(on(api.NEq, on(api.NDiv, num(1), col(0)), num(1)), is(1, 1)))))
	grouped := up(tableT(), group([]int{1}, agg(api.AggAll)), project(col(0), col(1)))
	becomes(t, up(grouped, distinct()), grouped)
}

// P16.1, P16.2: no rule holds of a tree of one operator over a table, nor of two that no rule names.
func TestNoRule(t *testing.T) {
	for _, l := range each() {
		stays(t, l)
		stays(t, up(l, sortBy(3, api.Ord{Col: 0, Desc: true})))
		stays(t, up(l, group([]int{0}, agg(api.AggMin, col(0)))))
		stays(t, tree(union(), l, l))
		stays(t, tree(join(false, lit(yes)), l, l))
		stays(t, tree(join(true, lit(no)), l, l))
		stays(t, up(l, filter(bad(0, 0))))
		switch l.Nodes[len(l.Nodes)-1].Op {
		case api.LProject:
			stays(t, up(l, distinct(), project(col(0))))
		case api.LDistinct:
			stays(t, up(l, project(col(0)), distinct()))
		case api.LGroup: // of a distinct over these there is a rule: see distinct_test.go
			stays(t, up(l, distinct(), project(col(0)), distinct()))
		default:
			stays(t, up(l, project(col(0)), distinct()))
			stays(t, up(l, distinct(), project(col(0)), distinct()))
		}
	}
}

// P16.1, P16.2: rule 1: a filter of a literal true is its part, whatever that is.
func TestFilterOfTrue(t *testing.T) {
	for _, l := range each() {
		tops(t, up(l, filter(lit(yes))), 1, l)
		becomes(t, up(l, filter(lit(yes))), l)
		becomes(t, up(l, filter(lit(yes)), filter(lit(yes)), filter(lit(yes))), l)
		becomes(t, up(l, filter(lit(yes)), sortBy(-1)), up(l, sortBy(-1)))
		becomes(t, up(l, filter(lit(yes)), group(nil, agg(api.AggAll))), up(l, group(nil, agg(api.AggAll))))
		becomes(t, tree(union(), up(l, filter(lit(yes))), l), tree(union(), l, l))
		becomes(t, tree(union(), l, up(l, filter(lit(yes)))), tree(union(), l, l))
		becomes(t, tree(join(true, lit(yes)), up(l, filter(lit(yes))), up(l, filter(lit(yes)))), tree(join(true, lit(yes)), l, l))
	}
}

// P16.1, P16.2: rule 1: false, null, a column, and what comes to true but is no literal are none.
func TestFilterOfNoTrue(t *testing.T) {
	l := table(0, api.VBool, api.VInt)
	for _, x := range []api.Expr{
		lit(no), lit(null), col(0), on(api.NNot, lit(no)), on(api.NNot, lit(yes)), on(api.NIsNull, lit(yes)),
		all(lit(yes), lit(yes)), on(api.NOr, lit(yes), col(0)), on(api.NEq, lit(yes), lit(yes)), on(api.NEq, num(1), num(1)), on(api.NEq, on(api.NNeg, num(1)), num(1)),
	} {
		isNot(t, up(l, filter(x)))
		stays(t, up(l, filter(x)))
		stays(t, tree(union(), up(l, filter(x)), up(l, filter(x), distinct())))
	}
}

// P16.1: where two rules hold of a filter, the first one of them is done.
func TestFirstRuleOfFilter(t *testing.T) {
	under := up(tableT(), filter(is(0, 1)))
	tops(t, up(under, filter(lit(yes))), 1, under)
	for _, left := range []bool{false, true} {
		tops(t, up(both(left), filter(lit(yes))), 1, both(left))
	}
	becomes(t, up(under, filter(lit(yes))), under)
	tops(t, up(tableT(), filter(lit(yes)), filter(is(0, 1))), 2, up(tableT(), filter(all(lit(yes), is(0, 1)))))
	becomes(t, up(tableT(), filter(lit(yes)), filter(is(0, 1))), up(tableT(), filter(is(0, 1))))
}

// P16.1, P16.2: rule 2: if the upper Cond is safe, both are one, the lower one first, whether that one is safe or not.
func TestFilterOverFilter(t *testing.T) {
	for _, lower := range []api.Expr{is(0, 1), lit(no), lit(null), bad(0, 1), all(is(0, 1), is(1, 2)), on(api.NOr, is(0, 1), bad(1, 1))} {
		for _, upper := range []api.Expr{is(1, 2), lit(no), lit(null), eq(0, 1), all(is(1, 1), eq(0, 1)), on(api.NOr, is(0, 1), is(1, 1))} {
			for _, l := range []api.Logic{tableT(), up(tableT(), distinct()), up(tableT(), project(col(0), on(api.NNeg, col(1)))), tree(union(), tableT(), tableT())} {
				made := up(l, filter(all(lower, upper)))
				tops(t, up(l, filter(lower), filter(upper)), 2, made)
				becomes(t, up(l, filter(lower), filter(upper)), made)
				becomes(t, up(l, filter(lower), filter(upper), distinct()), up(made, distinct()))
			}
		}
		for _, upper := range []api.Expr{bad(0, 1), bad(1, 0), all(is(0, 1), bad(1, 2)), all(bad(1, 2), is(0, 1)), on(api.NEq, on(api.NNeg, col(0)), num(1)), on(api.NEq, on(api.NAdd, col(0), num(1)), num(1)), on(api.NEq, on(api.NSub, col(0), num(1)), num(1)), on(api.NEq, on(api.NMul, col(0), num(1)), num(1))} {
			isNot(t, up(tableT(), filter(lower), filter(upper)))
			stays(t, up(tableT(), filter(lower), filter(upper)))
		}
	}
}

// P16.2: rule 2: of several filters each goes into the one below it, till one is not safe; above that one it begins again.
func TestFiltersOverFilters(t *testing.T) {
	a, b, c, d := is(0, 1), is(1, 2), eq(0, 1), bad(0, 3)
	l := tableT()
	becomes(t, up(l, filter(a), filter(b), filter(c)), up(l, filter(all(a, b, c))))
	becomes(t, up(l, filter(a), filter(all(b, c)), filter(a)), up(l, filter(all(a, all(b, c), a))))
	becomes(t, up(l, filter(a), filter(d), filter(b), filter(c)), up(l, filter(a), filter(all(d, b, c))))
	becomes(t, up(l, filter(d), filter(d), filter(b), filter(d), filter(a)), up(l, filter(d), filter(all(d, b)), filter(all(d, a))))
	becomes(t, up(l, filter(a), filter(lit(yes)), filter(b)), up(l, filter(all(a, b))))
	becomes(t, up(l, filter(a), distinct(), filter(b)), up(l, filter(a), distinct(), filter(b)))
	tops(t, up(l, filter(a), filter(b), filter(c)), 2, up(l, filter(a), filter(all(b, c))))
}

// P16.1, P16.2: rule 2: what comes has as many nodes as an expression may have, or one more.
func TestFiltersOfManyNodes(t *testing.T) {
	for _, lower := range []int{1, 3, 400, api.MaxExpr - 4, api.MaxExpr - 2} {
		for more := -1; more <= 2; more++ {
			upper := api.MaxExpr - 1 - lower + more
			if upper < 2 {
				continue
			}
			a, b := sized(0, lower), sized(1, upper)
			l := up(tableT(), filter(a), filter(b))
			if more <= 0 {
				tops(t, l, 2, up(tableT(), filter(all(a, b))))
				becomes(t, l, up(tableT(), filter(all(a, b))))
				continue
			}
			isNot(t, l)
			stays(t, l)
			if third := is(0, 1); upper+1+len(third.Nodes) <= api.MaxExpr {
				becomes(t, up(l, filter(third)), up(tableT(), filter(a), filter(all(b, third))))
			} else {
				stays(t, up(l, filter(third)))
			}
		}
	}
	half := sized(0, api.MaxExpr/2-1)
	becomes(t, up(tableT(), filter(half), filter(half), filter(half), filter(half)), up(tableT(), filter(all(half, half)), filter(all(half, half))))
}

// P16.3, P16.2: a filter of null or of false over a join has no columns, and goes to the left.
func TestFilterOfNothing(t *testing.T) {
	for _, v := range []api.Value{no, null} {
		for _, left := range []bool{false, true} {
			l := up(both(left), filter(lit(v)))
			want := tree(join(left, lit(yes)), up(tableT(), filter(lit(v))), tableU())
			tops(t, l, 3, want)
			becomes(t, l, want)
		}
	}
	got, right, stay, e := rewrite.Sides(lit(null), 2, true)
	if e != api.OK || !same(got, []api.Expr{lit(null)}) || len(right)+len(stay) > 0 {
		t.Error(got, right, stay, e)
	}
}
