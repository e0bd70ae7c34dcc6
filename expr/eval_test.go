package expr_test

import (
	"cmp"
	"math"
	"math/big"
	"math/rand"
	"slices"
	"testing"

	"bowsprit/api"
	"bowsprit/expr"
)

func truth(b bool) api.Value {
	if b {
		return yes
	}
	return no
}

// areOf tells whether values are of a kind, or null.
func areOf(kind int, l ...api.Value) bool {
	return !slices.ContainsFunc(l, func(v api.Value) bool { return v.Kind != kind && v != null })
}

// sumByRule is what arithmetic comes to, reckoned by numbers without bounds.
func sumByRule(tag int, l, r api.Value) (api.Value, api.Errno) {
	if !areOf(api.VInt, l, r) {
		return null, api.ErrKind
	}
	if l == null || r == null {
		return null, api.OK
	}
	a, b, c := big.NewInt(l.N), big.NewInt(r.N), new(big.Int)
	switch tag {
	case api.NAdd:
		c.Add(a, b)
	case api.NSub:
		c.Sub(a, b)
	case api.NMul:
		c.Mul(a, b)
	case api.NDiv:
		if r.N == 0 {
			return null, api.ErrFault
		}
		c.Quo(a, b)
	}
	if !c.IsInt64() {
		return null, api.ErrFault
	}
	return number(c.Int64()), api.OK
}

// testByRule is what a test of two values comes to.
func testByRule(tag int, l, r api.Value) (api.Value, api.Errno) {
	if l == null || r == null {
		return null, api.OK
	}
	if l.Kind != r.Kind {
		return null, api.ErrKind
	}
	order := cmp.Or(cmp.Compare(l.N, r.N), cmp.Compare(l.S, r.S))
	return map[int]api.Value{
		api.NEq: truth(order == 0), api.NNe: truth(order != 0), api.NLt: truth(order < 0),
		api.NLe: truth(order <= 0), api.NGt: truth(order > 0), api.NGe: truth(order >= 0),
	}[tag], api.OK
}

// rankByRule lays the truths in a row, the one that is not known between both others: there And is the lesser one, Or the greater one, Not the other end.
func rankByRule(v api.Value) int {
	return []int{1, 2 * int(v.N)}[v.Kind]
}

// byRule is what a node comes to of what its parts came to (of one part: the left one).
func byRule(tag int, l, r api.Value) (api.Value, api.Errno) {
	switch tag {
	case api.NIsNull:
		return truth(l == null), api.OK
	case api.NNotNull:
		return truth(l != null), api.OK
	case api.NNeg:
		return sumByRule(api.NSub, number(0), l)
	case api.NAdd, api.NSub, api.NMul, api.NDiv:
		return sumByRule(tag, l, r)
	case api.NNot, api.NAnd, api.NOr:
		if !areOf(api.VBool, l, r) {
			return null, api.ErrKind
		}
		a, b := rankByRule(l), rankByRule(r)
		rank := map[int]int{api.NNot: 2 - a, api.NAnd: min(a, b), api.NOr: max(a, b)}[tag]
		return []api.Value{no, null, yes}[rank], api.OK
	}
	return testByRule(tag, l, r)
}

// comesTo is what the expression comes to whose root is the node of a place, reckoned from the root on: all of the left part, all of the right one, then the node.
func comesTo(x api.Expr, place int, row api.Row) (api.Value, api.Errno) {
	n := x.Nodes[place]
	var l, r api.Value
	var e api.Errno
	switch n.Tag {
	case api.NLit:
		return n.Value, api.OK
	case api.ECol:
		return row[n.Col], api.OK
	}
	if l, e = comesTo(x, n.L, row); e != api.OK {
		return null, e
	}
	if n.R >= 0 {
		if r, e = comesTo(x, n.R, row); e != api.OK {
			return null, e
		}
	}
	return byRule(n.Tag, l, r)
}

// evals holds what an expression comes to of a row, which is not changed.
func evals(t *testing.T, x api.Expr, row api.Row, want api.Value, err api.Errno) {
	t.Helper()
	before := slices.Clone(row)
	if v, e := expr.Eval(x, row); v != want || e != err {
		t.Errorf("%v of %v: %v, %v, not %v, %v", x, row, v, e, want, err)
	}
	if !slices.Equal(before, row) {
		t.Errorf("%v was %v", row, before)
	}
}

// P10.4, P10.3, P10.6, P10.8: the chapter's examples.
func TestExamples(t *testing.T) {
	a, b := col(0), col(1)
	rows := []api.Row{{number(5), number(3)}, {null, number(0)}}
	evals(t, on(api.NSub, a, b), rows[0], number(2), api.OK)
	evals(t, on(api.NSub, a, b), rows[1], null, api.OK)
	evals(t, on(api.NDiv, a, b), rows[0], number(1), api.OK)
	evals(t, on(api.NDiv, a, b), rows[1], null, api.OK)
	evals(t, on(api.NAnd, on(api.NEq, on(api.NDiv, num(1), b), num(1)), on(api.NIsNull, a)), rows[1], null, api.ErrFault)
	isOf(t, on(api.NEq, a, b), []int{api.VInt, api.VNull}, api.VBool)
	isOf(t, on(api.NAdd, a, b), []int{api.VInt, api.VText}, -1)
	if l := expr.Ands(on(api.NAnd, on(api.NAnd, on(api.NEq, a, num(1)), on(api.NEq, b, num(2))), on(api.NLt, a, b))); len(l) != 3 {
		t.Error(l)
	}
	if l, r, ok := expr.Pair(on(api.NEq, b, a), 1); l != 0 || r != 0 || !ok {
		t.Error(l, r, ok)
	}
}

// P10.4: a literal of each value, and a column of each, at each place.
func TestEvalOfLeaves(t *testing.T) {
	for _, v := range plain() {
		evals(t, lit(v), nil, v, api.OK)
		evals(t, lit(v), api.Row{yes}, v, api.OK)
		for n := range api.MaxWidth {
			row := slices.Repeat(api.Row{text("other")}, api.MaxWidth)
			row[n] = v
			evals(t, col(n), row, v, api.OK)
			evals(t, col(n), row[:n+1], v, api.OK)
		}
	}
}

// P10.4: each tag of all values: of literals, of columns, and of both.
func TestEvalOfEachTag(t *testing.T) {
	for _, l := range plain() {
		for _, tag := range onePart {
			want, err := byRule(tag, l, null)
			evals(t, on(tag, lit(l)), nil, want, err)
			evals(t, on(tag, col(0)), api.Row{l}, want, err)
			evals(t, on(tag, col(3)), api.Row{null, yes, yes, l, yes}, want, err)
		}
		for _, r := range plain() {
			for _, tag := range twos {
				want, err := byRule(tag, l, r)
				evals(t, on(tag, lit(l), lit(r)), nil, want, err)
				evals(t, on(tag, col(0), col(1)), api.Row{l, r}, want, err)
				evals(t, on(tag, col(1), col(0)), api.Row{r, l}, want, err)
				evals(t, on(tag, col(2), lit(r)), api.Row{yes, yes, l}, want, err)
				evals(t, on(tag, lit(l), col(2)), api.Row{yes, yes, r}, want, err)
			}
		}
		for _, tag := range twos {
			want, err := byRule(tag, l, l)
			evals(t, on(tag, col(0), col(0)), api.Row{l}, want, err)
		}
	}
}

// P10.4: what some come to that the chapter's words single out, laid by hand.
func TestEvalByHand(t *testing.T) {
	for _, c := range []struct {
		x    api.Expr
		want api.Value
		err  api.Errno
	}{
		{on(api.NDiv, num(-7), num(2)), number(-3), api.OK},
		{on(api.NDiv, num(7), num(-2)), number(-3), api.OK},
		{on(api.NSub, num(3), num(5)), number(-2), api.OK},
		{on(api.NNeg, num(5)), number(-5), api.OK},
		{on(api.NNeg, lit(most)), number(-math.MaxInt64), api.OK},
		{on(api.NNeg, lit(least)), null, api.ErrFault},
		{on(api.NMul, lit(least), num(-1)), null, api.ErrFault},
		{on(api.NDiv, lit(least), num(-1)), null, api.ErrFault},
		{on(api.NDiv, lit(null), num(0)), null, api.OK},
		{on(api.NDiv, num(0), lit(null)), null, api.OK},
		{on(api.NDiv, num(0), num(0)), null, api.ErrFault},
		{on(api.NDiv, lit(null), lit(text("a"))), null, api.ErrKind},
		{on(api.NNeg, lit(yes)), null, api.ErrKind},
		{on(api.NNot, num(0)), null, api.ErrKind},
		{on(api.NNot, lit(null)), null, api.OK},
		{on(api.NAnd, lit(no), num(0)), null, api.ErrKind},
		{on(api.NAnd, lit(no), lit(null)), no, api.OK},
		{on(api.NAnd, lit(null), lit(yes)), null, api.OK},
		{on(api.NOr, lit(null), lit(yes)), yes, api.OK},
		{on(api.NOr, lit(null), lit(no)), null, api.OK},
		{on(api.NOr, lit(yes), lit(text("a"))), null, api.ErrKind},
		{on(api.NEq, lit(null), lit(null)), null, api.OK},
		{on(api.NNe, lit(null), num(5)), null, api.OK},
		{on(api.NEq, num(5), lit(text("5"))), null, api.ErrKind},
		{on(api.NNe, num(1), lit(yes)), null, api.ErrKind},
		{on(api.NLt, lit(text("a")), lit(text("ab"))), yes, api.OK},
		{on(api.NLt, lit(no), lit(yes)), yes, api.OK},
		{on(api.NGt, lit(text("a")), lit(text("B"))), yes, api.OK},
		{on(api.NLe, num(5), num(5)), yes, api.OK},
		{on(api.NGe, num(4), num(5)), no, api.OK},
		{on(api.NGe, lit(most), lit(least)), yes, api.OK},
		{on(api.NLe, lit(most), lit(least)), no, api.OK},
		{on(api.NIsNull, lit(null)), yes, api.OK},
		{on(api.NNotNull, lit(null)), no, api.OK},
		{on(api.NIsNull, lit(text(""))), no, api.OK},
		{on(api.NNotNull, num(0)), yes, api.OK},
	} {
		evals(t, c.x, nil, c.want, c.err)
	}
}

// P10.4: a fault in a part that does not matter to what it comes to is its fault nonetheless; so is a kind.
func TestBothPartsAreAsked(t *testing.T) {
	fault, bad := on(api.NDiv, num(1), num(0)), on(api.NAdd, num(1), lit(text("a")))
	for _, c := range []struct {
		x   api.Expr
		err api.Errno
	}{{fault, api.ErrFault}, {bad, api.ErrKind}} {
		is := on(api.NEq, c.x, num(1))
		for _, x := range []api.Expr{
			on(api.NAnd, lit(no), is), on(api.NAnd, is, lit(no)), on(api.NOr, lit(yes), is), on(api.NOr, is, lit(yes)), on(api.NAnd, lit(null), is), on(api.NOr, is, lit(null)),
			on(api.NIsNull, c.x), on(api.NNotNull, c.x), on(api.NEq, lit(null), c.x), on(api.NLt, c.x, lit(null)), on(api.NAdd, lit(null), c.x), on(api.NDiv, c.x, lit(null)), on(api.NMul, c.x, num(0)), on(api.NMul, num(0), c.x),
			on(api.NNot, on(api.NAnd, on(api.NAnd, lit(no), is), lit(no))),
		} {
			evals(t, x, api.Row{yes}, null, c.err)
		}
	}
}

// P10.4: of several errors that of the first node, in their order; of one node what it takes goes ahead of what comes of it.
func TestFirstError(t *testing.T) {
	fault, bad := on(api.NDiv, num(1), num(0)), on(api.NAdd, num(1), lit(text("a")))
	for _, tag := range twos {
		evals(t, on(tag, fault, bad), nil, null, api.ErrFault)
		evals(t, on(tag, bad, fault), nil, null, api.ErrKind)
		evals(t, on(tag, fault, lit(text("a"))), nil, null, api.ErrFault)
		evals(t, on(tag, lit(text("a")), fault), nil, null, api.ErrFault)
		evals(t, on(tag, on(api.NNeg, lit(yes)), fault), nil, null, api.ErrKind)
		evals(t, on(tag, on(tag, on(api.NNeg, lit(least)), bad), bad), nil, null, api.ErrFault)
	}
	for _, tag := range onePart {
		evals(t, on(tag, fault), nil, null, api.ErrFault)
		evals(t, on(tag, bad), nil, null, api.ErrKind)
	}
	for _, zero := range []api.Expr{num(0), col(0)} {
		row := api.Row{number(0)}
		evals(t, on(api.NDiv, lit(text("a")), zero), row, null, api.ErrKind)
		evals(t, on(api.NDiv, lit(yes), zero), row, null, api.ErrKind)
		evals(t, on(api.NDiv, lit(null), zero), row, null, api.OK)
		evals(t, on(api.NDiv, num(1), zero), row, null, api.ErrFault)
	}
	evals(t, on(api.NAdd, on(api.NAdd, lit(most), num(1)), on(api.NNot, num(1))), nil, null, api.ErrFault)
	evals(t, on(api.NAdd, on(api.NNot, num(1)), on(api.NAdd, lit(most), num(1))), nil, null, api.ErrKind)
}

// P10.4: whatever the expression, and whatever the row.
func TestEvalByRule(t *testing.T) {
	r := rand.New(rand.NewSource(104))
	values := plain()
	seen := map[api.Errno]int{}
	for range 60000 {
		x := anyExpr(r, 1+r.Intn(3), 3)
		row := api.Row{values[r.Intn(len(values))], values[r.Intn(len(values))], values[r.Intn(len(values))]}
		want, err := comesTo(x, len(x.Nodes)-1, row)
		evals(t, x, row, want, err)
		seen[err]++
	}
	if seen[api.OK] < 5000 || seen[api.ErrKind] < 5000 || seen[api.ErrFault] < 500 {
		t.Error(seen)
	}
}

// P10.4: columns that are none of the row, of each width.
func TestEvalWithoutColumns(t *testing.T) {
	for n := range api.MaxWidth {
		for count := range n + 1 {
			row := slices.Repeat(api.Row{yes}, count)
			for _, x := range []api.Expr{col(n), on(api.NIsNull, col(n)), on(api.NAnd, col(0), col(n)), on(api.NAnd, col(n), col(0)), on(api.NOr, lit(yes), col(n))} {
				evals(t, x, row, null, api.ErrArg)
			}
		}
		evals(t, on(api.NAnd, col(0), col(n)), slices.Repeat(api.Row{yes}, n+1), yes, api.OK)
	}
}

// P10.4, P10.9: a value that is not plain, in a column that it has; in all others it is not asked.
func TestEvalOfWhatIsNotPlain(t *testing.T) {
	for _, v := range unplain() {
		for n := range api.MaxWidth {
			row := slices.Repeat(api.Row{yes}, api.MaxWidth)
			row[n] = v
			for k := range api.MaxWidth {
				want, err := yes, api.OK
				if k == n {
					want, err = null, api.ErrArg
				}
				evals(t, col(k), row, want, err)
				evals(t, on(api.NNotNull, col(k)), row, want, err)
				evals(t, on(api.NOr, lit(no), col(k)), row, want, err)
			}
			evals(t, num(5), row, number(5), api.OK)
		}
		evals(t, col(0), append(slices.Repeat(api.Row{yes}, 40), v), yes, api.OK)
		evals(t, on(api.NEq, col(0), col(2)), api.Row{number(1), v, number(2)}, no, api.OK)
		evals(t, on(api.NEq, col(0), col(1)), api.Row{v, v}, null, api.ErrArg)
	}
}

// P10.4: columns go ahead of faults and kinds, wherever each of both stands.
func TestEvalFirst(t *testing.T) {
	for _, c := range []struct {
		wrong api.Expr
		err   api.Errno
	}{{on(api.NDiv, num(1), num(0)), api.ErrFault}, {on(api.NAdd, num(1), lit(text("a"))), api.ErrKind}} {
		for _, x := range []api.Expr{on(api.NEq, c.wrong, col(1)), on(api.NEq, col(1), c.wrong), on(api.NNot, on(api.NAnd, on(api.NIsNull, c.wrong), on(api.NOr, c.wrong, col(1))))} {
			evals(t, x, nil, null, api.ErrArg)
			evals(t, x, api.Row{number(1)}, null, api.ErrArg)
			evals(t, x, api.Row{number(1), {Kind: api.VSum}}, null, api.ErrArg)
			evals(t, x, api.Row{number(1), number(1)}, null, c.err)
		}
	}
}

// P10.4: of 1000 nodes, the stack as high as it comes.
func TestEvalOfGreat(t *testing.T) {
	evals(t, chain(api.MaxExpr-1), api.Row{yes}, yes, api.OK)
	evals(t, chain(api.MaxExpr), api.Row{yes}, no, api.OK)
	evals(t, chain(api.MaxExpr), api.Row{null}, null, api.OK)
	evals(t, chain(api.MaxExpr), api.Row{number(1)}, null, api.ErrKind)
	for _, left := range []bool{true, false} {
		x := leaning(api.MaxExpr-1, left)
		evals(t, x, api.Row{yes, yes}, yes, api.OK)
		evals(t, x, api.Row{no, yes}, no, api.OK)
		evals(t, x, api.Row{yes, null}, null, api.OK)
		evals(t, x, api.Row{yes}, null, api.ErrArg)
		evals(t, x, api.Row{number(1), yes}, null, api.ErrKind)
	}
	r := rand.New(rand.NewSource(105))
	for range 10 {
		x := num(1)
		for len(x.Nodes) < api.MaxExpr-2 {
			if y := num(int64(r.Intn(9) - 4)); r.Intn(2) == 0 {
				x = on(sums[r.Intn(2)], x, y)
			} else {
				x = on(sums[r.Intn(2)], y, x)
			}
		}
		want, err := comesTo(x, len(x.Nodes)-1, nil)
		evals(t, x, nil, want, err)
	}
}
