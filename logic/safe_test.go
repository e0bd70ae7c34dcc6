package logic_test

import (
	"slices"
	"testing"

	"bowsprit/api"
	"bowsprit/logic"
)

// unsafe are expressions of a kind that may fault, over a first column of VInt: each tag, at the root and below it.
func unsafe(kind int) []api.Expr {
	l := []api.Expr{on(api.NNeg, col(0)), on(api.NNeg, lit(null))}
	for _, tag := range []int{api.NAdd, api.NSub, api.NMul, api.NDiv} {
		l = append(l, on(tag, col(0), num(1)), on(tag, num(1), num(1)), on(tag, lit(null), lit(null)))
	}
	if kind == api.VInt {
		return l
	}
	for k, x := range l {
		l[k] = []api.Expr{on(api.NIsNull, x), on(api.NEq, num(1), x), on(api.NAnd, lit(no), on(api.NLt, x, col(0))), on(api.NNot, on(api.NGe, x, x))}[k%4]
	}
	return l
}

// safes are expressions of a kind that do not fault.
func safes(kind int) []api.Expr {
	if kind == api.VInt {
		return []api.Expr{num(1), col(0), lit(null)}
	}
	return []api.Expr{lit(yes), lit(no), lit(null), on(api.NEq, col(0), num(1)), on(api.NAnd, on(api.NIsNull, col(0)), on(api.NNot, on(api.NOr, lit(null), on(api.NLe, num(3), col(0)))))}
}

// isSafe holds whether trees are safe: the one alone, and with others above it and beside it.
func isSafe(t *testing.T, want bool, root api.LNode, parts ...api.Logic) {
	t.Helper()
	l := tree(root, parts...)
	kinds, place, ok := ruled(l)
	if !ok {
		t.Fatalf("%v: %v", l, place)
	}
	beside := table(3, api.VBool)
	top := kinds[len(kinds)-1]
	above := []api.Logic{l, tree(distinct(), l), tree(filter(lit(yes)), l), tree(project(num(1)), l), tree(group([]int{0}), l), tree(union(), l, columnsOf(top...)), tree(union(), columnsOf(top...), l)}
	above = append(above, tree(sortBy(1), l), tree(join(lit(yes)), l, beside), tree(leftJoin(lit(null)), beside, l), tree(sortBy(-1), tree(distinct(), tree(join(lit(yes)), beside, l))))
	for _, l := range above {
		if logic.Safe(l) != want {
			t.Errorf("%v: not %v", l, want)
		}
	}
}

// P13.4: each unsafe expression, at each place where one may stand, and AggSum of whatever; all others are safe.
func TestSafe(t *testing.T) {
	for want, of := range map[bool]func(int) []api.Expr{true: safes, false: unsafe} {
		for _, x := range of(api.VBool) {
			isSafe(t, want, filter(x), tableT())
			isSafe(t, want, join(x), tableT(), tableT())
			isSafe(t, want, leftJoin(x), tableT(), tableT())
		}
		for _, x := range slices.Concat(of(api.VBool), of(api.VInt)) {
			for place := range 3 {
				isSafe(t, want, project(slices.Insert([]api.Expr{col(0), col(1)}, place, x)...), tableT())
				for _, tag := range []int{api.AggCount, api.AggMin, api.AggMax} {
					isSafe(t, want, group(nil, slices.Insert([]api.Agg{agg(api.AggAll), agg(api.AggMin, col(0))}, place, agg(tag, x))...), tableT())
				}
			}
		}
		for _, x := range of(api.VInt) {
			for place := range 3 {
				isSafe(t, false, group([]int{1}, slices.Insert([]api.Agg{agg(api.AggAll), agg(api.AggMin, col(0))}, place, agg(api.AggSum, x))...), tableT())
			}
		}
	}
	isSafe(t, true, group(nil, agg(api.AggAll)), tableT())
	isSafe(t, true, group([]int{1}), tableT())
	isSafe(t, true, scan(0, api.VInt))
	for _, l := range slices.Concat(great(), []api.Logic{tree(sortBy(-1), tableT())}) {
		if !logic.Safe(l) {
			t.Errorf("%v: not safe", l)
		}
	}
}

// P13.4: each table once, rising, in whatever order they are scanned, and however often.
func TestTables(t *testing.T) {
	held := func(l api.Logic, want ...int) {
		t.Helper()
		if got := logic.Tables(l); !slices.Equal(got, want) {
			t.Errorf("%v: %v, not %v", l, got, want)
		}
	}
	for n := range api.MaxTables {
		held(table(n, api.VInt), n)
		held(tree(sortBy(-1), tree(distinct(), table(n, api.VInt))), n)
		held(tree(union(), table(n, api.VInt), table(n, api.VInt)), n)
		held(tree(join(lit(yes)), table(n, api.VInt), tree(filter(lit(yes)), table(n, api.VText, api.VBool))), n)
		for m := range api.MaxTables {
			want := []int{min(n, m), max(n, m)}
			if n == m {
				want = []int{n}
			}
			l := tree(union(), table(n, api.VInt), table(m, api.VInt))
			held(l, want...)
			held(tree(union(), l, l), want...)
			held(tree(union(), table(m, api.VInt), l), want...)
		}
	}
	all := []int{3, 1, 0, 2, 3, 0, 1}
	l := table(all[0], api.VInt)
	for _, n := range all[1:] {
		l = tree(union(), l, table(n, api.VInt))
	}
	held(l, 0, 1, 2, 3)
	held(chain(api.MaxLogic), 0)
	held(api.Logic{})
	held(nodes(a(), b()))
	held(tree(distinct(), tree(sortBy(-1), tableT())))
}
