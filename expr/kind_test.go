package expr_test

import (
	"math"
	"math/rand"
	"slices"
	"testing"

	"bowsprit/api"
	"bowsprit/expr"
)

// kinds are all that columns may be of.
func kinds() []int {
	return []int{api.VNull, api.VBool, api.VInt, api.VText}
}

// valueOf is some value of a kind.
func valueOf(kind int) api.Value {
	return []api.Value{null, yes, number(7), text("a")}[kind]
}

// The kinds of what takes two numbers, two truths, and any two that are alike: the left part's kind is the row, the right one's the place in it (null, truth, number, text); -1, if there is none.
var (
	ofNumbers = [4][4]int{{2, -1, 2, -1}, {-1, -1, -1, -1}, {2, -1, 2, -1}, {-1, -1, -1, -1}}
	ofTruths  = [4][4]int{{1, 1, -1, -1}, {1, 1, -1, -1}, {-1, -1, -1, -1}, {-1, -1, -1, -1}}
	ofAlike   = [4][4]int{{1, 1, 1, 1}, {1, 1, -1, -1}, {1, -1, 1, -1}, {1, -1, -1, 1}}
)

// kindByRule is the kind of a node over parts of these kinds (of one part: the left one); -1, if it has none.
func kindByRule(tag, l, r int) int {
	switch tag {
	case api.NNeg:
		return []int{2, -1, 2, -1}[l]
	case api.NNot:
		return []int{1, 1, -1, -1}[l]
	case api.NIsNull, api.NNotNull:
		return 1
	case api.NAdd, api.NSub, api.NMul, api.NDiv:
		return ofNumbers[l][r]
	case api.NAnd, api.NOr:
		return ofTruths[l][r]
	}
	return ofAlike[l][r]
}

// wholeKind is the kind of the expression whose root is the node of a place, reckoned from the root on; -1, if it has none.
func wholeKind(x api.Expr, place int, kinds []int) int {
	n := x.Nodes[place]
	if n.Tag == api.NLit {
		return n.Value.Kind
	}
	if n.Tag == api.ECol {
		return kinds[n.Col]
	}
	l, r := wholeKind(x, n.L, kinds), 0
	if n.R >= 0 {
		r = wholeKind(x, n.R, kinds)
	}
	if l < 0 || r < 0 {
		return -1
	}
	return kindByRule(n.Tag, l, r)
}

// isOf holds that an expression is of a kind, or has none.
func isOf(t *testing.T, x api.Expr, kinds []int, want int) {
	t.Helper()
	before := slices.Clone(kinds)
	k, e := expr.Kind(x, kinds)
	if want < 0 && (k != 0 || e != api.ErrKind) || want >= 0 && (k != want || e != api.OK) {
		t.Errorf("%v over %v: %v, %v, not %v", x, kinds, k, e, want)
	}
	if !slices.Equal(before, kinds) {
		t.Errorf("%v were %v", kinds, before)
	}
}

func isNoKind(t *testing.T, x api.Expr, kinds []int, want api.Errno) {
	t.Helper()
	if k, e := expr.Kind(x, kinds); k != 0 || e != want {
		t.Errorf("%v over %v: %v, %v, not %v", x, kinds, k, e, want)
	}
}

// P10.3: leaves; a column of each kind, and a literal of each value.
func TestKindOfLeaves(t *testing.T) {
	for _, k := range kinds() {
		isOf(t, col(0), []int{k}, k)
		for n := range api.MaxWidth {
			l := slices.Repeat([]int{(k + 1) % 4}, api.MaxWidth)
			l[n] = k
			isOf(t, col(n), l, k)
			isOf(t, col(n), l[:n+1], k)
		}
	}
	for _, v := range plain() {
		isOf(t, lit(v), nil, v.Kind)
		isOf(t, lit(v), []int{api.VText, api.VNull}, v.Kind)
	}
}

// P10.3: each tag over parts of each kind, columns and literals alike; and what stands over such, of which a part may have none.
func TestKindOfEachTag(t *testing.T) {
	for _, l := range kinds() {
		for _, tag := range onePart {
			want := kindByRule(tag, l, 0)
			isOf(t, on(tag, col(0)), []int{l}, want)
			isOf(t, on(tag, lit(valueOf(l))), nil, want)
			isOf(t, on(tag, on(tag, col(0))), []int{l}, want)
			isOf(t, on(api.NIsNull, on(tag, col(0))), []int{l}, min(want, api.VBool))
		}
		for _, r := range kinds() {
			for _, tag := range twos {
				want := kindByRule(tag, l, r)
				isOf(t, on(tag, col(0), col(1)), []int{l, r}, want)
				isOf(t, on(tag, col(1), col(0)), []int{r, l}, want)
				isOf(t, on(tag, lit(valueOf(l)), lit(valueOf(r))), nil, want)
				isOf(t, on(tag, col(2), lit(valueOf(r))), []int{0, 0, l}, want)
				isOf(t, on(tag, lit(valueOf(l)), col(1)), []int{3, r}, want)
				isOf(t, on(api.NNotNull, on(tag, col(0), col(1))), []int{l, r}, min(want, api.VBool))
				isOf(t, on(api.NEq, lit(null), on(tag, col(0), col(1))), []int{l, r}, min(want, api.VBool))
				isOf(t, on(api.NEq, on(tag, col(0), col(1)), lit(null)), []int{l, r}, min(want, api.VBool))
			}
		}
	}
}

// P10.3: whatever the expression, and whatever its columns are of.
func TestKindByRule(t *testing.T) {
	r := rand.New(rand.NewSource(103))
	seen := map[int]int{}
	for range 40000 {
		x := anyExpr(r, 1+r.Intn(3), 4)
		l := []int{r.Intn(4), r.Intn(4), r.Intn(4), r.Intn(4)}
		want := wholeKind(x, len(x.Nodes)-1, l)
		isOf(t, x, l, want)
		seen[want]++
	}
	for k := -1; k <= api.VText; k++ {
		if seen[k] < 500 {
			t.Error(seen)
		}
	}
}

// P10.3: a kind does not care whether arithmetic faults.
func TestKindOfFaults(t *testing.T) {
	isOf(t, on(api.NDiv, num(1), num(0)), nil, api.VInt)
	isOf(t, on(api.NNeg, lit(least)), nil, api.VInt)
	isOf(t, on(api.NLt, on(api.NMul, lit(most), lit(most)), col(0)), []int{api.VNull}, api.VBool)
}

// P10.3: columns that are none of kinds; kinds that are none, of a column that is used, and of one that is not.
func TestKindWrong(t *testing.T) {
	for n := range api.MaxWidth {
		for count := range n + 1 {
			isNoKind(t, col(n), make([]int, count), api.ErrArg)
			isNoKind(t, on(api.NIsNull, on(api.NAdd, col(0), col(n))), make([]int, count), api.ErrArg)
			isNoKind(t, on(api.NAdd, col(n), col(0)), make([]int, count), api.ErrArg)
		}
	}
	for _, k := range []int{-1, api.VSum, 5, 256, 1 << 32, math.MaxInt, math.MinInt} {
		for _, x := range []api.Expr{col(0), col(1), num(5), on(api.NAdd, num(1), lit(text("a"))), on(api.NIsNull, col(1))} {
			isNoKind(t, x, []int{k}, api.ErrArg)
			isNoKind(t, x, []int{k, api.VInt}, api.ErrArg)
			isNoKind(t, x, []int{api.VInt, k}, api.ErrArg)
			isNoKind(t, x, []int{api.VInt, api.VInt, k, api.VInt}, api.ErrArg)
			isNoKind(t, x, append(make([]int, 1000), k), api.ErrArg)
		}
	}
	isOf(t, on(api.NAdd, col(15), num(1)), append(make([]int, 15), slices.Repeat([]int{api.VInt}, 1000)...), api.VInt)
}

// P10.3: columns go ahead of kinds that do not go together, wherever each of both stands.
func TestKindFirst(t *testing.T) {
	bad := on(api.NAdd, num(1), lit(text("a")))
	isNoKind(t, bad, nil, api.ErrKind)
	for _, x := range []api.Expr{on(api.NEq, bad, col(1)), on(api.NEq, col(1), bad), on(api.NNot, on(api.NAnd, col(0), on(api.NOr, bad, col(1))))} {
		isNoKind(t, x, []int{api.VInt}, api.ErrArg)
		isNoKind(t, x, []int{api.VInt, api.VInt}, api.ErrKind)
	}
}

// P10.3: of 1000 nodes.
func TestKindOfGreat(t *testing.T) {
	isOf(t, chain(api.MaxExpr), []int{api.VBool}, api.VBool)
	isOf(t, chain(api.MaxExpr), []int{api.VInt}, -1)
	isOf(t, full, []int{api.VNull}, api.VBool)
	for _, left := range []bool{true, false} {
		isOf(t, leaning(api.MaxExpr-1, left), []int{api.VNull, api.VBool}, api.VBool)
		isOf(t, leaning(api.MaxExpr-1, left), []int{api.VText, api.VBool}, -1)
		isOf(t, leaning(api.MaxExpr-1, left), []int{api.VBool, api.VInt}, -1)
	}
}
