package rewrite_test

import (
	"slices"
	"testing"

	"bowsprit/api"
	"bowsprit/rewrite"
)

// going is an And, and which way it goes from a filter over a join of t and u.
type going struct {
	and   api.Expr
	below api.Expr // as it is written below the join, on the right
	side  int      // 0: A's columns alone, or none; 1: B's alone; 2: both
}

// ands are such as ask for columns of A alone, of B alone, of both, of none.
func ands() []going {
	return []going{
		{and: is(0, 1)},
		{and: on(api.NOr, is(2, 5), on(api.NIsNull, col(2))), below: on(api.NOr, is(0, 5), on(api.NIsNull, col(0))), side: 1},
		{and: eq(1, 2), side: 2},
		{and: lit(no)},
		{and: on(api.NLt, col(1), col(0))},
		{and: on(api.NNot, is(2, 6)), below: on(api.NNot, is(0, 6)), side: 1},
	}
}

// dealt is what a filter by Ands over a join of t and u comes to.
func dealt(l []going, left bool) api.Logic {
	var sides [3][]api.Expr
	for _, s := range l {
		switch {
		case s.side == 1 && !left:
			sides[1] = append(sides[1], s.below)
		case s.side == 0:
			sides[0] = append(sides[0], s.and)
		default:
			sides[2] = append(sides[2], s.and)
		}
	}
	a, b := tableT(), tableU()
	if len(sides[0]) > 0 {
		a = up(a, filter(all(sides[0]...)))
	}
	if len(sides[1]) > 0 {
		b = up(b, filter(all(sides[1]...)))
	}
	made := tree(join(left, lit(yes)), a, b)
	if len(sides[2]) > 0 {
		made = up(made, filter(all(sides[2]...)))
	}
	return made
}

// P16.1, P16.2: rule 3: Ands of each sort, alone and together, in each order; of a join that is Left, and one that is not.
func TestFilterOverJoin(t *testing.T) {
	var try func(chosen, rest []going)
	try = func(chosen, rest []going) {
		for _, left := range []bool{false, true} {
			if len(chosen) == 0 {
				break
			}
			var l []api.Expr
			goes := false
			for _, s := range chosen {
				l = append(l, s.and)
				goes = goes || s.side == 0 || s.side == 1 && !left
			}
			if from := up(both(left), filter(all(l...))); goes {
				tops(t, from, 3, dealt(chosen, left))
				becomes(t, from, dealt(chosen, left))
			} else {
				isNot(t, from)
				stays(t, from)
			}
		}
		for k, s := range rest {
			if len(chosen) < 4 {
				try(append(slices.Clone(chosen), s), slices.Delete(slices.Clone(rest), k, k+1))
			}
		}
	}
	try(nil, ands())
}

// P16.1, P16.2: rule 3: Ands are taken out of whatever Ands they stand in, and put together one behind the other; nothing is taken out of an Or, a Not.
func TestAndsWithinAnds(t *testing.T) {
	a, b, c, d := is(0, 1), eq(0, 2), is(1, 2), is(2, 3)
	want := up(tree(join(false, lit(yes)), up(tableT(), filter(all(a, c))), up(tableU(), filter(is(0, 3)))), filter(b))
	for _, cond := range []api.Expr{all(a, b, c, d), all(a, all(b, all(c, d))), all(all(a, b), all(c, d)), all(a, all(b, c), d)} {
		tops(t, up(both(false), filter(cond)), 3, want)
		becomes(t, up(both(false), filter(cond)), want)
	}
	for _, x := range []api.Expr{on(api.NOr, all(a, c), d), on(api.NNot, all(a, d)), on(api.NIsNull, all(a, d)), on(api.NEq, all(a, c), d)} {
		isNot(t, up(both(false), filter(x)))
		stays(t, up(both(false), filter(x)))
	}
	left := on(api.NNot, all(a, c))
	becomes(t, up(both(true), filter(left)), tree(join(true, lit(yes)), up(tableT(), filter(left)), tableU()))
}

// P16.1, P16.2, P16.4: rule 3: nothing goes if the Cond is not safe, in whatever And, nor if the join's is not.
func TestUnsafeOverJoin(t *testing.T) {
	for _, left := range []bool{false, true} {
		for _, x := range []api.Expr{bad(0, 1), bad(1, 1), bad(2, 1), on(api.NEq, on(api.NNeg, num(1)), num(1)), on(api.NEq, on(api.NAdd, col(0), col(2)), num(1)), on(api.NEq, on(api.NSub, col(1), num(2)), col(1)), on(api.NEq, on(api.NMul, num(1), num(2)), num(3))} {
			for _, cond := range []api.Expr{x, all(is(0, 1), x), all(x, is(0, 1)), all(x, is(2, 1)), all(is(0, 1), eq(0, 2), x, is(2, 1))} {
				isNot(t, up(both(left), filter(cond)))
				stays(t, up(both(left), filter(cond)))
			}
			over := tree(join(left, x), tableT(), tableU())
			for _, cond := range []api.Expr{is(0, 1), is(2, 1), eq(0, 2), lit(no), lit(null), all(is(0, 1), is(2, 1), eq(0, 2))} {
				isNot(t, up(over, filter(cond)))
				stays(t, up(over, filter(cond)))
				isNot(t, up(over, filter(all(cond, x))))
			}
			tops(t, up(over, filter(lit(yes))), 1, over)
		}
		for _, x := range []api.Expr{lit(no), lit(null), eq(0, 2), all(eq(1, 2), is(0, 1)), on(api.NOr, is(0, 1), is(2, 2))} {
			from := up(tree(join(left, x), tableT(), tableU()), filter(is(0, 1)))
			want := tree(join(left, x), up(tableT(), filter(is(0, 1))), tableU())
			tops(t, from, 3, want)
			becomes(t, from, want)
		}
	}
}

// P16.1, P16.4: rule 3: what stands below the join may fault: a filter goes above it.
func TestJoinOverUnsafe(t *testing.T) {
	a, b := up(tableT(), project(on(api.NDiv, num(1), col(0)), col(1))), up(tableU(), group([]int{0}, agg(api.AggSum, col(0))))
	for _, left := range []bool{false, true} {
		from := up(tree(join(left, eq(0, 2)), a, b), filter(all(is(0, 1), is(3, 2))))
		want := tree(join(left, eq(0, 2)), up(a, filter(is(0, 1))), up(b, filter(is(1, 2))))
		if left {
			want = up(tree(join(left, eq(0, 2)), up(a, filter(is(0, 1))), b), filter(is(3, 2)))
		}
		tops(t, from, 3, want)
		becomes(t, from, want)
	}
}

// P16.1, P16.2: rule 3: the last column of A, and the first one of B, whatever width both have.
func TestEdgeOfJoin(t *testing.T) {
	widths := func(width int) api.Logic {
		l := wide(0, min(width, api.MaxColumns))
		for n := 1; widthByRule(l) < width; n++ {
			l = tree(join(false, lit(no)), l, wide(n, min(width-widthByRule(l), api.MaxColumns)))
		}
		return up(l, distinct())
	}
	for a := 1; a < api.MaxWidth; a++ {
		for _, b := range []int{1, 2, api.MaxWidth - a} {
			if a+b > api.MaxWidth {
				continue
			}
			one, two := widths(a), widths(b)
			for _, left := range []bool{false, true} {
				over := tree(join(left, eq(0, a)), one, two)
				becomes(t, up(over, filter(is(a-1, 1))), tree(join(left, eq(0, a)), up(one, filter(is(a-1, 1))), two))
				becomes(t, up(over, filter(eq(0, a-1))), tree(join(left, eq(0, a)), up(one, filter(eq(0, a-1))), two))
				stays(t, up(over, filter(eq(a-1, a))))
				stays(t, up(over, filter(eq(0, a+b-1))))
				if left {
					stays(t, up(over, filter(is(a, 1))))
					stays(t, up(over, filter(is(a+b-1, 1))))
					continue
				}
				becomes(t, up(over, filter(is(a, 1))), tree(join(left, eq(0, a)), one, up(two, filter(is(0, 1)))))
				becomes(t, up(over, filter(eq(a, a+b-1))), tree(join(left, eq(0, a)), one, up(two, filter(eq(0, b-1)))))
			}
		}
	}
}

// P16.1: Top has its parts as they are, and what went down as it was laid; P16.2: Rewrite goes on there by the rules in turn.
func TestFiltersThatWentDown(t *testing.T) {
	cond, low := all(is(0, 1), is(2, 3)), on(api.NLt, col(0), num(9))
	from := up(tree(join(false, lit(yes)), up(tableT(), filter(low)), up(tableU(), filter(bad(0, 1)))), filter(cond))
	tops(t, from, 3, tree(join(false, lit(yes)), up(tableT(), filter(low), filter(is(0, 1))), up(tableU(), filter(bad(0, 1)), filter(is(0, 3)))))
	becomes(t, from, tree(join(false, lit(yes)), up(tableT(), filter(all(low, is(0, 1)))), up(tableU(), filter(all(bad(0, 1), is(0, 3))))))
	from = up(tree(join(true, lit(yes)), up(tableT(), filter(lit(yes)), filter(low)), up(tableU(), distinct(), distinct())), filter(cond))
	tops(t, from, 3, up(tree(join(true, lit(yes)), up(tableT(), filter(lit(yes)), filter(low), filter(is(0, 1))), up(tableU(), distinct(), distinct())), filter(is(2, 3))))
	becomes(t, from, up(tree(join(true, lit(yes)), up(tableT(), filter(all(low, is(0, 1)))), up(tableU(), distinct())), filter(is(2, 3))))
}

// P16.1, P16.2: a true And without columns goes to the left, and is none there, if it is alone.
func TestTrueThatWentDown(t *testing.T) {
	from := up(both(false), filter(all(lit(yes), is(2, 3))))
	tops(t, from, 3, tree(join(false, lit(yes)), up(tableT(), filter(lit(yes))), up(tableU(), filter(is(0, 3)))))
	becomes(t, from, tree(join(false, lit(yes)), tableT(), up(tableU(), filter(is(0, 3)))))
	becomes(t, up(both(true), filter(all(is(2, 3), lit(yes)))), up(both(true), filter(is(2, 3))))
	becomes(t, up(both(false), filter(all(lit(yes), lit(yes)))), tree(join(false, lit(yes)), up(tableT(), filter(all(lit(yes), lit(yes)))), tableU()))
	becomes(t, up(both(false), filter(all(eq(0, 2), lit(yes)))), up(both(false), filter(eq(0, 2))))
}

// P16.2: a filter over joins of joins goes as far down as its columns let it.
func TestFilterOverJoins(t *testing.T) {
	a, b, c, d := tableT(), tableU(), wide(2, 1), wide(3, 2)
	ab, cd := tree(join(false, eq(0, 2)), a, b), tree(join(true, eq(0, 1)), c, d)
	cond := all(is(0, 10), is(2, 12), is(3, 13), is(4, 14), is(5, 15), eq(1, 2), eq(2, 3), eq(3, 4), lit(null))
	for _, left := range []bool{false, true} {
		from := up(tree(join(left, lit(yes)), ab, cd), filter(cond))
		low := up(tree(join(false, eq(0, 2)), up(a, filter(all(is(0, 10), lit(null)))), up(b, filter(is(0, 12)))), filter(eq(1, 2)))
		if left {
			becomes(t, from, up(tree(join(true, lit(yes)), low, cd), filter(all(is(3, 13), is(4, 14), is(5, 15), eq(2, 3), eq(3, 4)))))
			continue
		}
		right := up(tree(join(true, eq(0, 1)), up(c, filter(is(0, 13))), d), filter(all(is(1, 14), is(2, 15), eq(0, 1))))
		becomes(t, from, up(tree(join(false, lit(yes)), low, right), filter(eq(2, 3))))
	}
	chain, want := up(tableT(), distinct()), up(tableT(), distinct(), filter(is(1, 1)))
	for n := 1; n < api.MaxTables; n++ {
		chain, want = tree(join(n%2 == 0, eq(0, 1)), chain, wide(n, 2)), tree(join(n%2 == 0, eq(0, 1)), want, wide(n, 2))
	}
	becomes(t, up(chain, filter(is(1, 1))), want)
}

// P16.2: a filter that stayed above a join, and one more that comes down on it, are one; what of it can goes on.
func TestFilterOverFilterOverJoin(t *testing.T) {
	for _, left := range []bool{false, true} {
		from := up(both(left), filter(eq(0, 2)), filter(all(is(1, 1), on(api.NLt, col(0), col(2)))))
		want := up(tree(join(left, lit(yes)), up(tableT(), filter(is(1, 1))), tableU()), filter(all(eq(0, 2), on(api.NLt, col(0), col(2)))))
		tops(t, from, 2, up(both(left), filter(all(eq(0, 2), all(is(1, 1), on(api.NLt, col(0), col(2)))))))
		becomes(t, from, want)
		stays(t, up(both(left), filter(bad(0, 1))))
		becomes(t, up(both(left), filter(bad(0, 1)), filter(is(0, 1))), up(both(left), filter(all(bad(0, 1), is(0, 1)))))
		becomes(t, up(both(left), filter(is(0, 1)), filter(bad(0, 1))), up(tree(join(left, lit(yes)), up(tableT(), filter(is(0, 1))), tableU()), filter(bad(0, 1))))
	}
	l := up(tree(join(false, lit(yes)), both(false), tableU()), filter(all(eq(0, 3), eq(0, 2))), filter(all(eq(1, 3), is(1, 4))))
	low := up(tree(join(false, lit(yes)), up(tableT(), filter(is(1, 4))), tableU()), filter(eq(0, 2)))
	becomes(t, l, up(tree(join(false, lit(yes)), low, tableU()), filter(all(eq(0, 3), eq(1, 3)))))
}

// P16.2: rule 2 of a filter that went down holds only if both are not too long; then it stays above the other one.
func TestLongFilterThatWentDown(t *testing.T) {
	for more := range 2 {
		low, high := sized(0, 500), sized(1, 499+more)
		from := up(tree(join(false, lit(yes)), up(tableT(), filter(low)), tableU()), filter(high))
		made := tree(join(false, lit(yes)), up(tableT(), filter(low), filter(high)), tableU())
		tops(t, from, 3, made)
		if more == 0 {
			made = tree(join(false, lit(yes)), up(tableT(), filter(all(low, high))), tableU())
		}
		becomes(t, from, made)
	}
}

// P16.3, R1: an expression of many Ands.
func TestManyAnds(t *testing.T) {
	var l, left, right []api.Expr
	for k := range 250 {
		if k%2 == 0 {
			l, left = append(l, on(api.NIsNull, col(0))), append(left, on(api.NIsNull, col(0)))
		} else {
			l, right = append(l, on(api.NIsNull, col(2))), append(right, on(api.NIsNull, col(0)))
		}
	}
	becomes(t, up(both(false), filter(all(l...))), tree(join(false, lit(yes)), up(tableT(), filter(all(left...))), up(tableU(), filter(all(right...)))))
	a, b, c, e := rewrite.Sides(all(l...), 2, false)
	if e != api.OK || !same(a, left) || !same(b, right) || len(c) > 0 {
		t.Error(len(a), len(b), len(c), e)
	}
}
