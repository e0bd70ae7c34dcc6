package arith_test

import (
	"math"
	"math/big"
	"slices"
	"testing"

	"bowsprit/api"
	"bowsprit/arith"
)

// many is how many values All takes.
const many = 1 << 20

// P4.2: of all sums under way and all terms: the sum, if the term is null; else with it added, to 0, if the sum is null.
func TestSum(t *testing.T) {
	for _, s := range sums() {
		for _, v := range terms() {
			want := fine(s)
			if v != null {
				want = asSum(new(big.Int).Add(exact(s), exact(v)))
			}
			if got := of(arith.Sum(s, v)); got != want {
				t.Errorf("Sum(%v, %v): %v, not %v", s, v, got, want)
			}
		}
	}
}

// P4.2: of all pairs of sums under way: the other one, if one is null; else both added.
func TestJoin(t *testing.T) {
	for _, a := range sums() {
		for _, b := range sums() {
			want := asSum(new(big.Int).Add(exact(a), exact(b)))
			switch null {
			case a:
				want = fine(b)
			case b:
				want = fine(a)
			}
			if got := of(arith.Join(a, b)); got != want {
				t.Errorf("Join(%v, %v): %v, not %v", a, b, got, want)
			}
		}
	}
}

// P4.2: null of null; of all others the number, if it fits 64 bits.
func TestEnd(t *testing.T) {
	for _, s := range sums() {
		want := asTerm(exact(s))
		if s == null {
			want = fine(null)
		}
		if got := of(arith.End(s)); got != want {
			t.Errorf("End(%v): %v, not %v", s, got, want)
		}
	}
}

// P4.2: the ends of 128 and of 64 bits, written out one by one.
func TestEndsOf128Bits(t *testing.T) {
	greatest, least := total(math.MaxInt64, math.MaxUint64), total(math.MinInt64, 0)
	one, less := total(0, 1), total(-1, math.MaxUint64)
	fault := bad(api.ErrFault)
	hold(t, []told{
		{"greatest, and 1", of(arith.Sum(greatest, number(1))), fault},
		{"greatest, and 0", of(arith.Sum(greatest, number(0))), fine(greatest)},
		{"greatest, and null", of(arith.Sum(greatest, null)), fine(greatest)},
		{"greatest, and -1", of(arith.Sum(greatest, number(-1))), fine(total(math.MaxInt64, math.MaxUint64-1))},
		{"least, and -1", of(arith.Sum(least, number(-1))), fault},
		{"least, and 1", of(arith.Sum(least, number(1))), fine(total(math.MinInt64, 1))},
		{"least, and the least term", of(arith.Sum(least, number(math.MinInt64))), fault},
		{"greatest with 1", of(arith.Join(greatest, one)), fault},
		{"1 with greatest", of(arith.Join(one, greatest)), fault},
		{"least with -1", of(arith.Join(least, less)), fault},
		{"least with least", of(arith.Join(least, least)), fault},
		{"greatest with greatest", of(arith.Join(greatest, greatest)), fault},
		{"least with greatest", of(arith.Join(least, greatest)), fine(less)},
		{"1 with -1", of(arith.Join(one, less)), fine(total(0, 0))},
		{"the carry goes up", of(arith.Join(total(0, math.MaxUint64), one)), fine(total(1, 0))},
		{"the carry goes down", of(arith.Join(total(1, 0), less)), fine(total(0, math.MaxUint64))},
		{"-1, and -1", of(arith.Sum(less, number(-1))), fine(total(-1, math.MaxUint64-1))},
		{"null, and 5", of(arith.Sum(null, number(5))), fine(total(0, 5))},
		{"null, and -5", of(arith.Sum(null, number(-5))), fine(total(-1, math.MaxUint64-4))},
		{"null, and 0", of(arith.Sum(null, number(0))), fine(total(0, 0))},
		{"null, and null", of(arith.Sum(null, null)), fine(null)},
		{"End of 2^63 - 1", of(arith.End(total(0, math.MaxInt64))), fine(number(math.MaxInt64))},
		{"End of 2^63", of(arith.End(total(0, 1<<63))), fault},
		{"End of -2^63", of(arith.End(total(-1, 1<<63))), fine(number(math.MinInt64))},
		{"End of -2^63 - 1", of(arith.End(total(-1, math.MaxInt64))), fault},
		{"End of 2^64", of(arith.End(total(1, 0))), fault},
		{"End of -2^64", of(arith.End(total(-1, 0))), fault},
		{"End of greatest", of(arith.End(greatest)), fault},
		{"End of least", of(arith.End(least)), fault},
		{"End of 0", of(arith.End(total(0, 0))), fine(number(0))},
	})
}

// P4.2: a term where a sum under way has to be, a sum where a term has to be, and what is neither, beside null, too.
func TestNoSums(t *testing.T) {
	for _, w := range noSums() {
		for _, v := range []api.Value{null, number(5), text("a"), total(0, 5)} {
			if got := of(arith.Sum(w, v)); got != bad(api.ErrArg) {
				t.Errorf("Sum(%v, %v): %v", w, v, got)
			}
			refused(t, pairCall{"Join", arith.Join}, w, v, api.ErrArg)
		}
		if got := of(arith.End(w)); got != bad(api.ErrArg) {
			t.Errorf("End(%v): %v", w, got)
		}
	}
	for _, w := range noTerms() {
		for _, s := range []api.Value{null, number(5), text("a"), total(0, 5), total(math.MaxInt64, math.MaxUint64)} {
			if got := of(arith.Sum(s, w)); got != bad(api.ErrArg) {
				t.Errorf("Sum(%v, %v): %v", s, w, got)
			}
		}
	}
}

// P4.3: the terms' sum; null, if there is none but nulls.
func TestAll(t *testing.T) {
	cases := []struct {
		l    []api.Value
		want answer
	}{
		{[]api.Value{}, fine(null)},
		{[]api.Value{null, null, null}, fine(null)},
		{[]api.Value{number(0)}, fine(number(0))},
		{[]api.Value{null, number(0), null}, fine(number(0))},
		{[]api.Value{number(1), null, number(2), number(-10)}, fine(number(-7))},
		{[]api.Value{number(math.MinInt64)}, fine(number(math.MinInt64))},
		{[]api.Value{number(math.MinInt64), number(-1)}, bad(api.ErrFault)},
		{[]api.Value{number(math.MinInt64), number(-1), number(1)}, fine(number(math.MinInt64))},
		{[]api.Value{number(math.MaxInt64), null, number(1)}, bad(api.ErrFault)},
		{[]api.Value{number(math.MinInt64), number(math.MinInt64), number(math.MaxInt64), number(math.MaxInt64)}, fine(number(-2))},
	}
	for _, c := range cases {
		if got := of(arith.All(c.l)); got != c.want {
			t.Errorf("All(%v): %v, not %v", c.l, got, c.want)
		}
	}
}

// P4.3: the first error of a Sum is told, whatever stands behind it; only then whether the whole fits.
func TestAllFirstError(t *testing.T) {
	for _, w := range wrong() {
		for _, n := range noTerms() {
			cases := []struct {
				l    []api.Value
				want api.Errno
			}{
				{[]api.Value{w}, api.ErrValue},
				{[]api.Value{n}, api.ErrArg},
				{[]api.Value{w, n}, api.ErrValue},
				{[]api.Value{n, w}, api.ErrArg},
				{[]api.Value{number(5), null, n, number(5), w}, api.ErrArg},
				{[]api.Value{null, w, null, n, number(5)}, api.ErrValue},
				{[]api.Value{number(math.MaxInt64), number(math.MaxInt64), w}, api.ErrValue},
				{[]api.Value{n, number(math.MaxInt64), number(math.MaxInt64)}, api.ErrArg},
			}
			for _, c := range cases {
				if got := of(arith.All(c.l)); got != bad(c.want) {
					t.Errorf("All(%v): %v, not %d", c.l, got, c.want)
				}
			}
		}
	}
}

// P4.3: 2^20 values are taken, one more is not, and then nothing is asked of any of them.
func TestAllMany(t *testing.T) {
	for _, c := range []struct {
		v    api.Value
		want answer
	}{
		{null, fine(null)}, {number(0), fine(number(0))}, {number(3), fine(number(3 * many))},
		{number(math.MaxInt64 / many), fine(number(math.MaxInt64 / many * many))}, {number(math.MinInt64 / many), fine(number(math.MinInt64))},
		{number(math.MaxInt64), bad(api.ErrFault)}, {number(math.MinInt64), bad(api.ErrFault)},
		{text("a"), bad(api.ErrArg)}, {api.Value{Kind: 5}, bad(api.ErrValue)},
	} {
		l := slices.Repeat([]api.Value{c.v}, many+1)
		if got := of(arith.All(l[:many])); got != c.want {
			t.Errorf("All of %d times %v: %v, not %v", many, c.v, got, c.want)
		}
		if got := of(arith.All(l)); got != bad(api.ErrLong) {
			t.Errorf("All of %d times %v: %v", many+1, c.v, got)
		}
	}
}

// P4.3, P4.4: a sum of 2^20 terms may go as far as they reach, and come back.
func TestAllFarAndBack(t *testing.T) {
	l := slices.Repeat([]api.Value{number(math.MaxInt64)}, many)
	for k := many / 2; k < many; k++ {
		l[k] = number(math.MinInt64)
	}
	if got := of(arith.All(l)); got != fine(number(-many/2)) {
		t.Errorf("half of them greatest, half least: %v", got)
	}
	l[many-1] = text("a")
	if got := of(arith.All(l)); got != bad(api.ErrArg) {
		t.Errorf("the last one is no term: %v", got)
	}
}

// P4.3, R3: All changes nothing of what is handed in, nor of the room behind it.
func TestAllChangesNothing(t *testing.T) {
	l := []api.Value{number(5), null, number(math.MaxInt64), text("a"), {Kind: 5}}
	before := slices.Clone(l)
	for n := range len(l) + 1 {
		arith.All(l[:n])
	}
	if !slices.Equal(l, before) {
		t.Errorf("changed: %v", l)
	}
}

// lists are terms of which the order is to make nothing out: beyond 64 bits and back, nulls among them, and some that fit nothing.
func lists() [][]api.Value {
	great, least := number(math.MaxInt64), number(math.MinInt64)
	return [][]api.Value{
		{number(1), number(2), number(3), number(4)},
		{great, great, least, null, number(7)},
		{least, least, great, great, number(-9)},
		{great, number(1), null, number(-1), number(5)},
		{great, great, great, number(-3), least, least},
		{least, number(-1), number(-1), null, null},
		{null, null, null},
	}
}

// orders hands on each order of the terms.
func orders(l []api.Value, on func([]api.Value)) {
	var lay func(n int)
	lay = func(n int) {
		if n == len(l) {
			on(l)
			return
		}
		for k := n; k < len(l); k++ {
			l[n], l[k] = l[k], l[n]
			lay(n + 1)
			l[n], l[k] = l[k], l[n]
		}
	}
	lay(0)
}

// under is the sum under way of terms, one behind the other.
func under(t *testing.T, l []api.Value) api.Value {
	t.Helper()
	s := null
	for _, v := range l {
		var e api.Errno
		if s, e = arith.Sum(s, v); e != api.OK {
			t.Fatalf("Sum of %v: %d", l, e)
		}
	}
	return s
}

// P4.4: whatever the order, and whatever the three parts of which the sums are joined, either way round, it comes to the same.
func TestOrdersAndParts(t *testing.T) {
	for _, l := range lists() {
		sum, end := under(t, l), of(arith.All(l))
		orders(l, func(l []api.Value) {
			if got := of(arith.All(l)); got != end || under(t, l) != sum {
				t.Fatalf("%v: %v, %v, not %v, %v", l, got, under(t, l), end, sum)
			}
			for i := range len(l) + 1 {
				for j := i; j <= len(l); j++ {
					parts(t, under(t, l[:i]), under(t, l[i:j]), under(t, l[j:]), sum)
				}
			}
		})
		if got := of(arith.End(sum)); got != end {
			t.Errorf("%v: End is %v, All is %v", l, got, end)
		}
	}
}

// parts joins three sums under way from the left, from the right, and turned round.
func parts(t *testing.T, a, b, c, want api.Value) {
	t.Helper()
	join := func(a, b api.Value) api.Value {
		s, e := arith.Join(a, b)
		if e != api.OK {
			t.Fatalf("Join(%v, %v): %d", a, b, e)
		}
		return s
	}
	for _, got := range []api.Value{join(join(a, b), c), join(a, join(b, c)), join(c, join(b, a)), join(join(a, c), b)} {
		if got != want {
			t.Fatalf("%v, %v, %v joined: %v, not %v", a, b, c, got, want)
		}
	}
}

// P4.4: what is added is taken away again; of terms, and of sums under way.
func TestAddedAndTakenAway(t *testing.T) {
	for _, a := range terms() {
		for _, b := range terms() {
			if c, e := arith.Add(a, b); e == api.OK && c != null {
				if got := of(arith.Sub(c, b)); got != fine(a) {
					t.Errorf("%v and %v, less that: %v", a, b, got)
				}
			}
		}
	}
	for _, s := range sums()[1:] {
		for _, v := range terms() {
			less, e := arith.Neg(v)
			more, f := arith.Sum(s, v)
			if e != api.OK || f != api.OK {
				continue
			}
			if got := of(arith.Sum(more, less)); got != fine(s) {
				t.Errorf("%v and %v, less that: %v", s, v, got)
			}
		}
	}
}

// P4.4: a is b times the quotient, and a rest that is nearer to 0 than b, and on a's side of it.
func TestQuotientAndRest(t *testing.T) {
	for _, a := range numbers() {
		for _, b := range numbers() {
			q, e := arith.Div(number(a), number(b))
			if e != api.OK {
				continue
			}
			p, e := arith.Mul(number(b), q)
			r, f := arith.Sub(number(a), p)
			if e != api.OK || f != api.OK {
				t.Fatalf("%d, %d: %d, %d", a, b, e, f)
			}
			if exact(r).CmpAbs(exact(number(b))) >= 0 || r.N != 0 && (r.N < 0) != (a < 0) {
				t.Errorf("%d by %d: rest %d", a, b, r.N)
			}
		}
	}
}
