package denote_test

import (
	"slices"
	"testing"

	"bowsprit/api"
	"bowsprit/denote"
)

// full is the database over which some, plus and times count.
func full() api.Base {
	return base(counted(12))
}

// counts holds how many rows a tree comes to.
func counts(t *testing.T, l api.Logic, want int) {
	t.Helper()
	if got, e := denote.Rows(l, full()); e != api.OK || len(got) != want {
		t.Errorf("%v, %v, not %v", len(got), e, want)
	}
}

// says holds which error a tree comes to over it.
func says(t *testing.T, l api.Logic, want api.Errno) {
	t.Helper()
	isNone(t, want)(denote.Rows(l, full()))
}

// each of these comes to as many rows as it is called.
func of13() api.Logic   { return plus(some(12), some(1)) }
func of20() api.Logic   { return plus(some(10), some(10)) }
func of100() api.Logic  { return times(some(10), some(10)) }
func of200() api.Logic  { return times(some(10), of20()) }
func of181() api.Logic  { return plus(times(some(12), plus(some(12), some(3))), some(1)) }
func of221() api.Logic  { return times(of13(), plus(some(12), some(5))) }
func of8000() api.Logic { return times(times(some(8), some(10)), of100()) }

// nothing is a join that leaves no pair.
func nothing(a, b api.Logic) api.Logic {
	return tree(join(false, lit(no)), a, b)
}

// P15.2: as many pairs as MaxPairs, and one more, though none of them is left.
func TestMaxPairs(t *testing.T) {
	if 200*200 != api.MaxPairs || 221*181 != api.MaxPairs+1 {
		t.Fatal(api.MaxPairs)
	}
	for n, l := range map[int]api.Logic{13: of13(), 20: of20(), 100: of100(), 181: of181(), 200: of200(), 221: of221()} {
		counts(t, l, n)
	}
	counts(t, nothing(of200(), of200()), 0)
	says(t, nothing(of181(), of221()), api.ErrLong)
	says(t, nothing(of221(), of181()), api.ErrLong)
	says(t, nothing(of200(), plus(of200(), some(1))), api.ErrLong)
	says(t, nothing(plus(of200(), some(1)), of200()), api.ErrLong)
	counts(t, tree(join(true, lit(no)), of200(), of200()), 200)
	says(t, tree(join(true, lit(no)), of221(), of181()), api.ErrLong)
	counts(t, nothing(of8000(), some(5)), 0)
	counts(t, nothing(of8000(), some(0)), 0)
	says(t, nothing(of8000(), some(6)), api.ErrLong)
	says(t, nothing(some(6), of8000()), api.ErrLong)
	says(t, nothing(of8000(), of8000()), api.ErrLong)
}

// P15.2: as many rows as MaxList, and one more: of a join, with those that found none, of a union.
func TestMaxList(t *testing.T) {
	if 63*127 != api.MaxList+1 {
		t.Fatal(api.MaxList)
	}
	of63, of127 := times(some(7), some(9)), plus(times(some(11), some(11)), some(6))
	counts(t, of8000(), api.MaxList)
	says(t, tree(join(false, lit(yes)), of63, of127), api.ErrLong)
	says(t, tree(join(true, lit(yes)), of127, of63), api.ErrLong)
	says(t, tree(join(true, lit(yes)), of200(), of200()), api.ErrLong)
	counts(t, plus(of8000(), some(0)), api.MaxList)
	says(t, plus(of8000(), some(1)), api.ErrLong)
	says(t, plus(some(1), of8000()), api.ErrLong)
	says(t, plus(of8000(), of8000()), api.ErrLong)
	left := tree(join(true, on(api.NEq, col(0), col(1))), of8000(), some(8))
	says(t, nothing(left, some(6)), api.ErrLong)
	counts(t, tree(join(true, on(api.NGt, col(0), num(4))), plus(some(4), times(some(6), some(6))), of100()), 4+4*6+12*100)
	counts(t, tree(join(true, on(api.NIsNull, col(0))), of8000(), some(5)), api.MaxList)
	says(t, tree(join(true, on(api.NAnd, on(api.NEq, col(0), num(1)), on(api.NLe, col(1), num(2)))), of8000(), some(2)), api.ErrLong)
}

// P15.2: what is as long as it may be may be asked further.
func TestOverMaxList(t *testing.T) {
	l := of8000()
	counts(t, tree(filter(lit(yes)), l), api.MaxList)
	counts(t, tree(project(lit(null), col(0)), l), api.MaxList)
	counts(t, tree(sortBy(-1, down(0)), l), api.MaxList)
	counts(t, tree(sortBy(7999), l), api.MaxList-1)
	counts(t, tree(distinct(), l), 8)
	isRows(t, list("8000 8 8000 36000"))(denote.Rows(tree(group(nil, agg(api.AggAll), agg(api.AggMax, col(0)), agg(api.AggCount, col(0)), agg(api.AggSum, col(0))), l), full()))
	isRows(t, list("1 1000 / 2 1000 / 3 1000 / 4 1000 / 5 1000 / 6 1000 / 7 1000 / 8 1000"))(denote.Rows(tree(group([]int{0}, agg(api.AggAll)), l), full()))
}

// P15.2: of one node: more pairs than there may be go ahead of what faults, for none is asked; what faults goes ahead of more rows than there may be, whichever pair it is.
func TestFaultAndLongInOneNode(t *testing.T) {
	always := bad(num(0), 0)
	says(t, tree(join(false, always), of200(), of200()), api.ErrFault)
	says(t, tree(join(false, always), of221(), of181()), api.ErrLong)
	says(t, tree(join(true, always), of181(), of221()), api.ErrLong)
	pair := on(api.NAdd, on(api.NMul, col(0), num(100)), col(1))
	for _, n := range []int64{101, 108, 110, 810} {
		counts(t, tree(join(false, bad(pair, n)), of8000(), some(0)), 0)
		says(t, tree(join(false, bad(pair, n)), times(some(8), of100()), times(some(10), some(5))), api.ErrFault)
		says(t, tree(join(true, on(api.NOr, lit(yes), bad(pair, n))), times(some(8), of100()), times(some(10), some(5))), api.ErrFault)
	}
	says(t, tree(join(false, bad(pair, 811)), times(some(8), of100()), times(some(10), some(5))), api.ErrLong)
}

// P15.2: of two nodes the first in order says what is wrong, wherever they stand.
func TestFirstNodeSays(t *testing.T) {
	faults := tree(filter(bad(col(0), 1)), tableT())
	for _, long := range []api.Logic{plus(of8000(), some(1)), tree(project(col(0)), nothing(of221(), of181())), tree(project(col(1)), tree(join(true, lit(yes)), of200(), of200()))} {
		for _, n := range []api.LNode{union(), join(false, lit(no)), join(true, lit(yes)), join(false, bad(num(0), 0))} {
			says(t, tree(n, faults, long), api.ErrFault)
			says(t, tree(n, long, faults), api.ErrLong)
			says(t, tree(sortBy(0), tree(n, tree(distinct(), faults), tree(distinct(), long))), api.ErrFault)
			says(t, tree(sortBy(0), tree(n, tree(distinct(), long), tree(distinct(), faults))), api.ErrLong)
		}
		for _, n := range []api.LNode{filter(bad(num(0), 0)), project(bad(num(0), 0)), group(nil, agg(api.AggCount, bad(num(0), 0)))} {
			says(t, tree(n, long), api.ErrLong)
			says(t, tree(n, tree(union(), faults, long)), api.ErrFault)
		}
	}
	says(t, nothing(tree(project(bad(num(0), 0)), of200()), of200()), api.ErrFault)
	says(t, tree(union(), nothing(of221(), of181()), tree(join(false, bad(num(0), 0)), tableT(), tableT())), api.ErrLong)
	says(t, tree(union(), tree(join(false, bad(num(0), 0)), tableT(), tableT()), nothing(of221(), of181())), api.ErrFault)
}

// P15.2: what faults, or is too long, is told though nothing of it would be left.
func TestFaultOfWhatIsLeftOut(t *testing.T) {
	for want, l := range map[api.Errno]api.Logic{api.ErrFault: tree(filter(bad(col(0), 1)), tableT()), api.ErrLong: plus(of8000(), some(1))} {
		for _, n := range []api.LNode{filter(lit(no)), group(nil, agg(api.AggAll)), project(num(1)), distinct(), sortBy(0)} {
			says(t, tree(n, l), want)
		}
		says(t, nothing(some(0), l), want)
		says(t, nothing(l, some(0)), want)
	}
}

// R1: a tree of joins, each of as many pairs as there may be, of which great expressions are asked.
func TestGreatestTree(t *testing.T) {
	cond := on(api.NAdd, col(0), col(1))
	for len(cond.Nodes) < 100 {
		cond = on(api.NSub, on(api.NAdd, cond, col(1)), col(1))
	}
	l := of200()
	for len(l.Nodes)+len(of200().Nodes)+2 < api.MaxLogic {
		l = tree(project(col(0)), tree(join(true, on(api.NGt, cond, num(20))), l, of200()))
	}
	counts(t, tree(project(slices.Repeat([]api.Expr{col(0)}, api.MaxWidth)...), l), 200)
}
