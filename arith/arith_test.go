package arith_test

import (
	"math"
	"math/big"
	"strings"
	"testing"

	"bowsprit/api"
	"bowsprit/arith"
)

// number, total and text are values, laid here without the program.
func number(n int64) api.Value {
	return api.Value{Kind: api.VInt, N: n}
}

func total(n int64, u uint64) api.Value {
	return api.Value{Kind: api.VSum, N: n, U: u}
}

func text(s string) api.Value {
	return api.Value{Kind: api.VText, S: s}
}

var null = api.Value{}

// numbers are of 64 bits: around each power of two, and around the roots of the ends, where products begin not to fit.
func numbers() []int64 {
	l := []int64{0, 3, -3, 5, -5, 6, -6, 7, -7, 10, -10, 100, -100, 3037000499, -3037000499, 3037000500, -3037000500, 0x0102030405060708, -0x0102030405060708}
	for k := range 64 {
		p := int64(1) << k
		l = append(l, p, -p, p-1, 1-p, p+1, -1-p)
	}
	return l
}

// terms are values of numbers, and null.
func terms() []api.Value {
	l := []api.Value{null}
	for _, n := range numbers() {
		l = append(l, number(n))
	}
	return l
}

// sums are sums under way: null, and around each power of two, up to the ends of 128 bits.
func sums() []api.Value {
	l := []api.Value{null, total(0, 0), total(1, 5), total(-1, 5), total(-2, math.MaxUint64), total(math.MaxInt64, 0), total(math.MinInt64, math.MaxUint64)}
	for k := range 64 {
		low, high := uint64(1)<<k, int64(1)<<k
		l = append(l, total(0, low), total(0, low-1), total(-1, -low), total(-1, -low-1), total(high, 0), total(high-1, math.MaxUint64), total(-high, 0), total(-high-1, math.MaxUint64))
	}
	return l
}

// plain are values that are neither terms nor sums under way.
func plain() []api.Value {
	return []api.Value{{Kind: api.VBool}, {Kind: api.VBool, N: 1}, text(""), text("a"), text("5"), text("NULL")}
}

// noTerms are values that may be, but are no terms; noSums are those that are no sums under way.
func noTerms() []api.Value {
	return append(plain(), total(0, 0), total(0, 5), total(-1, math.MaxUint64), total(math.MinInt64, 0))
}

func noSums() []api.Value {
	return append(plain(), number(0), number(5), number(-1), number(math.MinInt64), number(math.MaxInt64))
}

// wrong are values that may not be: of no kind, and of each kind with something in what does not count of it.
func wrong() []api.Value {
	return []api.Value{
		{Kind: -1}, {Kind: 5}, {Kind: math.MaxInt}, {Kind: math.MinInt, N: 1}, {N: 1}, {U: 1}, {S: "a"},
		{Kind: api.VBool, N: 2}, {Kind: api.VBool, N: -1}, {Kind: api.VBool, U: 1},
		{Kind: api.VInt, N: 5, U: 1}, {Kind: api.VInt, N: -1, U: math.MaxUint64}, {Kind: api.VInt, N: 5, S: "5"},
		{Kind: api.VText, N: 1, S: "a"}, text(strings.Repeat("a", api.MaxText+1)),
		{Kind: api.VSum, S: "a"}, {Kind: api.VSum, N: 1, U: 1, S: "a"},
	}
}

// answer is what a call answers.
type answer struct {
	v api.Value
	e api.Errno
}

func of(v api.Value, e api.Errno) answer {
	return answer{v, e}
}

func fine(v api.Value) answer {
	return answer{v, api.OK}
}

func bad(e api.Errno) answer {
	return answer{null, e}
}

// told is what a call answered, and what it is to answer.
type told struct {
	name      string
	got, want answer
}

// hold holds what was answered against what is to be.
func hold(t *testing.T, l []told) {
	t.Helper()
	for _, c := range l {
		if c.got != c.want {
			t.Errorf("%s: %v, not %v", c.name, c.got, c.want)
		}
	}
}

// exact is the number of a value, reckoned without bounds, apart from how the program does it.
func exact(v api.Value) *big.Int {
	x := big.NewInt(v.N)
	if v.Kind == api.VSum {
		x.Lsh(x, 64)
		x.Add(x, new(big.Int).SetUint64(v.U))
	}
	return x
}

// asTerm and asSum are what a number without bounds is to be answered as.
func asTerm(x *big.Int) answer {
	if !x.IsInt64() {
		return bad(api.ErrFault)
	}
	return fine(number(x.Int64()))
}

func asSum(x *big.Int) answer {
	end := new(big.Int).Lsh(big.NewInt(1), 127)
	if x.Cmp(end) >= 0 || x.Cmp(end.Neg(end)) < 0 {
		return bad(api.ErrFault)
	}
	high, low := new(big.Int).DivMod(x, new(big.Int).Lsh(big.NewInt(1), 64), new(big.Int))
	return fine(total(high.Int64(), low.Uint64()))
}

// pairCall is a call of two values, so that what holds of several of them is asked of all alike.
type pairCall struct {
	name string
	call func(a, b api.Value) (api.Value, api.Errno)
}

// deed is a call of two terms, and what it is to come to without bounds; nil: a fault.
type deed struct {
	pairCall
	want func(x, y *big.Int) *big.Int
}

func deeds() []deed {
	return []deed{
		{pairCall{"Add", arith.Add}, func(x, y *big.Int) *big.Int { return new(big.Int).Add(x, y) }},
		{pairCall{"Sub", arith.Sub}, func(x, y *big.Int) *big.Int { return new(big.Int).Sub(x, y) }},
		{pairCall{"Mul", arith.Mul}, func(x, y *big.Int) *big.Int { return new(big.Int).Mul(x, y) }},
		{pairCall{"Div", arith.Div}, quotient},
	}
}

// quotient is that of what both are without their signs, rounded down: so it is rounded towards 0, whatever the signs are.
func quotient(x, y *big.Int) *big.Int {
	if y.Sign() == 0 {
		return nil
	}
	q := new(big.Int).Div(new(big.Int).Abs(x), new(big.Int).Abs(y))
	if x.Sign()*y.Sign() < 0 {
		q.Neg(q)
	}
	return q
}

// P4.1: of all pairs of terms what they come to without bounds, if it fits.
func TestTwoTerms(t *testing.T) {
	for _, d := range deeds() {
		for _, a := range numbers() {
			for _, b := range numbers() {
				want := bad(api.ErrFault)
				if x := d.want(big.NewInt(a), big.NewInt(b)); x != nil {
					want = asTerm(x)
				}
				if got := of(d.call(number(a), number(b))); got != want {
					t.Errorf("%s(%d, %d): %v, not %v", d.name, a, b, got, want)
				}
			}
		}
	}
}

// P4.1: 0 less a; the least number alone faults.
func TestNeg(t *testing.T) {
	for _, a := range numbers() {
		if got, want := of(arith.Neg(number(a))), asTerm(new(big.Int).Neg(big.NewInt(a))); got != want {
			t.Errorf("Neg(%d): %v, not %v", a, got, want)
		}
	}
	if got := of(arith.Neg(null)); got != fine(null) {
		t.Errorf("Neg(null): %v", got)
	}
}

// P4.1: null, if one is null, though the other one is 0 by which is divided.
func TestNullTerms(t *testing.T) {
	for _, d := range deeds() {
		for _, v := range terms() {
			if got := of(d.call(v, null)); got != fine(null) {
				t.Errorf("%s(%v, null): %v", d.name, v, got)
			}
			if got := of(d.call(null, v)); got != fine(null) {
				t.Errorf("%s(null, %v): %v", d.name, v, got)
			}
		}
	}
}

// P4.1: the ends of 64 bits, written out one by one.
func TestEndsOf64Bits(t *testing.T) {
	const least, most = math.MinInt64, math.MaxInt64
	fault := bad(api.ErrFault)
	hold(t, []told{
		{"most + 0", of(arith.Add(number(most), number(0))), fine(number(most))},
		{"most + 1", of(arith.Add(number(most), number(1))), fault},
		{"1 + most", of(arith.Add(number(1), number(most))), fault},
		{"least + -1", of(arith.Add(number(least), number(-1))), fault},
		{"least + most", of(arith.Add(number(least), number(most))), fine(number(-1))},
		{"least + least", of(arith.Add(number(least), number(least))), fault},
		{"most + most", of(arith.Add(number(most), number(most))), fault},
		{"0 - least", of(arith.Sub(number(0), number(least))), fault},
		{"-1 - least", of(arith.Sub(number(-1), number(least))), fine(number(most))},
		{"least - least", of(arith.Sub(number(least), number(least))), fine(number(0))},
		{"least - 1", of(arith.Sub(number(least), number(1))), fault},
		{"least - most", of(arith.Sub(number(least), number(most))), fault},
		{"-2 - most", of(arith.Sub(number(-2), number(most))), fault},
		{"-1 - most", of(arith.Sub(number(-1), number(most))), fine(number(least))},
		{"least * -1", of(arith.Mul(number(least), number(-1))), fault},
		{"-1 * least", of(arith.Mul(number(-1), number(least))), fault},
		{"least * 1", of(arith.Mul(number(least), number(1))), fine(number(least))},
		{"least * 0", of(arith.Mul(number(least), number(0))), fine(number(0))},
		{"least * least", of(arith.Mul(number(least), number(least))), fault},
		{"2^32 * 2^32", of(arith.Mul(number(1<<32), number(1<<32))), fault},
		{"2^32 * -2^31", of(arith.Mul(number(1<<32), number(-1<<31))), fine(number(least))},
		{"2^32 * 2^31", of(arith.Mul(number(1<<32), number(1<<31))), fault},
		{"least / -1", of(arith.Div(number(least), number(-1))), fault},
		{"least / 1", of(arith.Div(number(least), number(1))), fine(number(least))},
		{"most / -1", of(arith.Div(number(most), number(-1))), fine(number(-most))},
		{"least / 0", of(arith.Div(number(least), number(0))), fault},
		{"0 / 0", of(arith.Div(number(0), number(0))), fault},
		{"least / least", of(arith.Div(number(least), number(least))), fine(number(1))},
		{"most / least", of(arith.Div(number(most), number(least))), fine(number(0))},
		{"least / most", of(arith.Div(number(least), number(most))), fine(number(-1))},
	})
}

// P4.1: the quotient is rounded towards 0, whatever the signs are.
func TestDivTowardsZero(t *testing.T) {
	cases := []struct{ a, b, q int64 }{
		{7, 2, 3}, {-7, 2, -3}, {7, -2, -3}, {-7, -2, 3}, {1, 2, 0}, {-1, 2, 0}, {1, -2, 0}, {-1, -2, 0},
		{6, 3, 2}, {-6, 3, -2}, {6, -3, -2}, {-6, -3, 2}, {5, 6, 0}, {-5, 6, 0}, {-99, 100, 0}, {-199, 100, -1}, {0, 5, 0}, {0, -5, 0}, {7, -1, -7}, {-7, -1, 7},
	}
	for _, c := range cases {
		if got := of(arith.Div(number(c.a), number(c.b))); got != fine(number(c.q)) {
			t.Errorf("Div(%d, %d): %v, not %d", c.a, c.b, got, c.q)
		}
	}
}

// P4.1: what is no term is refused, beside null and beside 0, too.
func TestNoTerms(t *testing.T) {
	others := append([]api.Value{null, number(0), number(5), number(math.MinInt64)}, noTerms()...)
	for _, w := range noTerms() {
		for _, d := range deeds() {
			for _, v := range others {
				refused(t, d.pairCall, w, v, api.ErrArg)
			}
		}
		if got := of(arith.Neg(w)); got != bad(api.ErrArg) {
			t.Errorf("Neg(%v): %v", w, got)
		}
	}
}

// refused asks for an error, whichever of both is the first.
func refused(t *testing.T, c pairCall, a, b api.Value, e api.Errno) {
	t.Helper()
	if got := of(c.call(a, b)); got != bad(e) {
		t.Errorf("%s(%v, %v): %v", c.name, a, b, got)
	}
	if got := of(c.call(b, a)); got != bad(e) {
		t.Errorf("%s(%v, %v): %v", c.name, b, a, got)
	}
}

// P4.1, P4.2: ErrValue goes ahead of all else, whichever value it is of, and whatever the other one is.
func TestWrongValues(t *testing.T) {
	calls := []pairCall{{"Sum", arith.Sum}, {"Join", arith.Join}}
	for _, d := range deeds() {
		calls = append(calls, d.pairCall)
	}
	others := append(append([]api.Value{null, number(0), number(5)}, noTerms()...), wrong()...)
	for _, w := range wrong() {
		for _, c := range calls {
			for _, v := range others {
				refused(t, c, w, v, api.ErrValue)
			}
		}
		for _, got := range []answer{of(arith.Neg(w)), of(arith.End(w))} {
			if got != bad(api.ErrValue) {
				t.Errorf("Neg, End of %v: %v", w, got)
			}
		}
	}
}

// The chapter's examples.
func TestExamples(t *testing.T) {
	const least, most = math.MinInt64, math.MaxInt64
	fault := bad(api.ErrFault)
	hold(t, []told{
		{"Add(5, null)", of(arith.Add(number(5), null)), fine(null)},
		{"Add(2^63 - 1, 1)", of(arith.Add(number(most), number(1))), fault},
		{"Sub(3, 5)", of(arith.Sub(number(3), number(5))), fine(number(-2))},
		{"Mul(-2^63, -1)", of(arith.Mul(number(least), number(-1))), fault},
		{"Div(-7, 2)", of(arith.Div(number(-7), number(2))), fine(number(-3))},
		{"Div(1, 0)", of(arith.Div(number(1), number(0))), fault},
		{"Div(-2^63, -1)", of(arith.Div(number(least), number(-1))), fault},
		{"Neg(-2^63)", of(arith.Neg(number(least))), fault},
		{"All(2^63 - 1, 2^63 - 1, -2^63)", of(arith.All([]api.Value{number(most), number(most), number(least)})), fine(number(most - 1))},
		{"All(null)", of(arith.All([]api.Value{null})), fine(null)},
		{"All(none)", of(arith.All(nil)), fine(null)},
		{"All(2^63 - 1, 1)", of(arith.All([]api.Value{number(most), number(1)})), fault},
		{"Add(5, 'a')", of(arith.Add(number(5), text("a"))), bad(api.ErrArg)},
		{"Sum(5, 5)", of(arith.Sum(number(5), number(5))), bad(api.ErrArg)},
		{"Join(null, null)", of(arith.Join(null, null)), fine(null)},
	})
}
