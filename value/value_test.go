package value_test

import (
	"math"
	"strings"
	"testing"

	"bowsprit/api"
	"bowsprit/value"
)

// text is a text's value, laid here without the program.
func text(s string) api.Value {
	return api.Value{Kind: api.VText, S: s}
}

func number(n int64) api.Value {
	return api.Value{Kind: api.VInt, N: n}
}

func total(n int64, u uint64) api.Value {
	return api.Value{Kind: api.VSum, N: n, U: u}
}

var (
	null = api.Value{}
	no   = api.Value{Kind: api.VBool}
	yes  = api.Value{Kind: api.VBool, N: 1}
)

// plains are plain values of each kind, edges among them, each ahead of those behind it in the order.
func plains() []api.Value {
	l := []api.Value{null, no, yes}
	for _, n := range []int64{math.MinInt64, math.MinInt64 + 1, math.MinInt32, -256, -10, -9, -2, -1, 0, 1, 2, 9, 10, 255, 256, math.MaxInt32, math.MaxInt64 - 1, math.MaxInt64} {
		l = append(l, number(n))
	}
	long := strings.Repeat("a", api.MaxText)
	for _, s := range []string{"", "\x00", "\x00\x00", "\n", " ", "''", "''a", "'a", "-7", "10", "9", "A", "NULL", "TRUE", "a", "a'", "aa", long[1:], long, long[1:] + "b", "ab", "b", "~", "\x80", "é", "\xff", "\xff\xff", strings.Repeat("\xff", api.MaxText)} {
		l = append(l, text(s))
	}
	return l
}

// sums are values that may be, but are not plain.
func sums() []api.Value {
	return []api.Value{total(0, 0), total(1, 0), total(0, 1), total(-1, math.MaxUint64), total(math.MinInt64, 0), total(math.MaxInt64, math.MaxUint64)}
}

// wrong are values that may not be: of no kind, and of each kind with something in what does not count of it.
func wrong() []api.Value {
	return []api.Value{
		{Kind: -1}, {Kind: 5}, {Kind: 6, N: 1}, {Kind: math.MaxInt}, {Kind: math.MinInt}, {Kind: -1, S: "a"}, {Kind: 256 + api.VInt},
		{N: 1}, {N: -1}, {U: 1}, {S: "a"}, {N: 1, U: 1, S: "a"}, {N: math.MinInt64}, {U: math.MaxUint64},
		{Kind: api.VBool, N: 2}, {Kind: api.VBool, N: -1}, {Kind: api.VBool, N: 256}, {Kind: api.VBool, N: 1 << 32}, {Kind: api.VBool, N: math.MinInt64}, {Kind: api.VBool, U: 1}, {Kind: api.VBool, N: 1, U: 1}, {Kind: api.VBool, S: "a"}, {Kind: api.VBool, N: 1, S: "TRUE"},
		{Kind: api.VInt, U: 1}, {Kind: api.VInt, N: 5, U: 1}, {Kind: api.VInt, N: -1, U: math.MaxUint64}, {Kind: api.VInt, N: 5, S: "5"}, {Kind: api.VInt, S: " "},
		{Kind: api.VText, N: 1}, {Kind: api.VText, N: 1, S: "a"}, {Kind: api.VText, U: 1}, {Kind: api.VText, U: 1, S: "a"}, {Kind: api.VText, N: -1, S: "a"},
		text(strings.Repeat("a", api.MaxText+1)), text(strings.Repeat("é", api.MaxText/2+1)), text(strings.Repeat("a", 1000)),
		{Kind: api.VSum, S: "a"}, {Kind: api.VSum, N: 1, U: 1, S: "\x00"},
	}
}

// truths are the three of them, and untruths are values that may be, but are none.
func truths() []api.Value {
	return []api.Value{no, yes, null}
}

func untruths() []api.Value {
	return append(sums(), number(0), number(1), number(-1), text(""), text("TRUE"), text("a"))
}

// answer is what a call with an error answers.
type answer struct {
	v api.Value
	e api.Errno
}

func of(v api.Value, e api.Errno) answer {
	return answer{v, e}
}

// pairCall is a call of two values, so that what holds of several of them is asked of all alike.
type pairCall struct {
	name string
	call func(a, b api.Value) (api.Value, api.Errno)
}

func comparisons() []pairCall {
	return []pairCall{{"Equal", value.Equal}, {"Less", value.Less}}
}

func junctions() []pairCall {
	return []pairCall{{"And", value.And}, {"Or", value.Or}}
}

// P2.1: what may be, and what of that is plain.
func TestCheckAndPlain(t *testing.T) {
	for _, v := range plains() {
		if value.Check(v) != api.OK || !value.Plain(v) {
			t.Errorf("%v: %d, %v", v, value.Check(v), value.Plain(v))
		}
	}
	for _, v := range sums() {
		if value.Check(v) != api.OK || value.Plain(v) {
			t.Errorf("%v: %d, %v", v, value.Check(v), value.Plain(v))
		}
	}
	for _, v := range wrong() {
		if value.Check(v) != api.ErrValue || value.Plain(v) {
			t.Errorf("%v: %d, %v", v, value.Check(v), value.Plain(v))
		}
	}
}

// P2.1: the values of what is handed in, which may be.
func TestMakers(t *testing.T) {
	if value.Null() != null || value.Bool(false) != no || value.Bool(true) != yes {
		t.Errorf("Null, Bool: %v, %v, %v", value.Null(), value.Bool(false), value.Bool(true))
	}
	for _, n := range []int64{0, 1, -1, math.MaxInt64, math.MinInt64} {
		if value.Int(n) != number(n) {
			t.Errorf("Int(%d): %v", n, value.Int(n))
		}
	}
}

// P2.1: bytes are counted, not what they are of, up to MaxText.
func TestText(t *testing.T) {
	for _, s := range []string{"", "a", "it's", "\x00", "\xff\xfe", strings.Repeat("a", api.MaxText), strings.Repeat("é", api.MaxText/2), strings.Repeat("'", api.MaxText)} {
		if got := of(value.Text(s)); got != (answer{text(s), api.OK}) {
			t.Errorf("Text(%q): %v", s, got)
		}
	}
	for _, s := range []string{strings.Repeat("a", api.MaxText+1), strings.Repeat("é", api.MaxText/2+1), strings.Repeat("a", 100000)} {
		if got := of(value.Text(s)); got != (answer{null, api.ErrLong}) {
			t.Errorf("Text of %d bytes: %v", len(s), got)
		}
	}
}

// P2.2: all plain values stand in one order, in which each one is the same as itself alone.
func TestCompare(t *testing.T) {
	l := plains()
	for i, a := range l {
		for j, b := range l {
			want := 0
			if i < j {
				want = -1
			}
			if i > j {
				want = 1
			}
			if got := value.Compare(a, b); got != want {
				t.Errorf("Compare(%v, %v): %d, not %d", a, b, got, want)
			}
		}
	}
}

// P2.2: of what is not plain nothing is ahead, and nothing behind.
func TestCompareNotPlain(t *testing.T) {
	for _, w := range append(wrong(), sums()...) {
		for _, v := range append(append(plains(), sums()...), wrong()...) {
			if value.Compare(w, v) != 0 || value.Compare(v, w) != 0 {
				t.Errorf("Compare of %v and %v: %d, %d", w, v, value.Compare(w, v), value.Compare(v, w))
			}
		}
	}
}

// P2.3: of one kind: as they stand in the list of all; with null: null; of unlike kinds: ErrArg.
func TestEqualAndLess(t *testing.T) {
	l := plains()
	for i, a := range l {
		for j, b := range l {
			equal, less := answer{no, api.OK}, answer{no, api.OK}
			switch {
			case a == null || b == null:
				equal, less = answer{null, api.OK}, answer{null, api.OK}
			case a.Kind != b.Kind:
				equal, less = answer{null, api.ErrArg}, answer{null, api.ErrArg}
			case i == j:
				equal.v = yes
			case i < j:
				less.v = yes
			}
			if got := of(value.Equal(a, b)); got != equal {
				t.Errorf("Equal(%v, %v): %v, not %v", a, b, got, equal)
			}
			if got := of(value.Less(a, b)); got != less {
				t.Errorf("Less(%v, %v): %v, not %v", a, b, got, less)
			}
		}
	}
}

// P2.3: a sum is not plain, beside null either, and beside itself.
func TestComparisonsOfSums(t *testing.T) {
	for _, c := range comparisons() {
		for _, s := range sums() {
			for _, v := range append(plains(), sums()...) {
				if got := of(c.call(s, v)); got != (answer{null, api.ErrArg}) {
					t.Errorf("%s(%v, %v): %v", c.name, s, v, got)
				}
				if got := of(c.call(v, s)); got != (answer{null, api.ErrArg}) {
					t.Errorf("%s(%v, %v): %v", c.name, v, s, got)
				}
			}
		}
	}
}

// P2.3, P2.4: ErrValue goes ahead of ErrArg, whichever value it is of, and ahead of all that is told already by one of both.
func TestPairsOfWrongValues(t *testing.T) {
	others := append(append(plains(), sums()...), wrong()...)
	for _, c := range append(comparisons(), junctions()...) {
		for _, w := range wrong() {
			for _, v := range others {
				if got := of(c.call(w, v)); got != (answer{null, api.ErrValue}) {
					t.Errorf("%s(%v, %v): %v", c.name, w, v, got)
				}
				if got := of(c.call(v, w)); got != (answer{null, api.ErrValue}) {
					t.Errorf("%s(%v, %v): %v", c.name, v, w, got)
				}
			}
		}
	}
}

// P2.4: what And, Or, Not come to, written out one by one.
func TestLogic(t *testing.T) {
	cases := []struct{ a, b, and, or api.Value }{
		{no, no, no, no}, {no, yes, no, yes}, {no, null, no, null},
		{yes, no, no, yes}, {yes, yes, yes, yes}, {yes, null, null, yes},
		{null, no, no, null}, {null, yes, null, yes}, {null, null, null, null},
	}
	for _, c := range cases {
		if got := of(value.And(c.a, c.b)); got != (answer{c.and, api.OK}) {
			t.Errorf("And(%v, %v): %v", c.a, c.b, got)
		}
		if got := of(value.Or(c.a, c.b)); got != (answer{c.or, api.OK}) {
			t.Errorf("Or(%v, %v): %v", c.a, c.b, got)
		}
	}
	for _, c := range []struct{ a, not api.Value }{{no, yes}, {yes, no}, {null, null}} {
		if got := of(value.Not(c.a)); got != (answer{c.not, api.OK}) {
			t.Errorf("Not(%v): %v", c.a, got)
		}
	}
}

// P2.4: what is no truth is refused, though the other one would tell alone.
func TestLogicOfNoTruths(t *testing.T) {
	for _, u := range untruths() {
		for _, c := range junctions() {
			for _, v := range append(truths(), untruths()...) {
				if got := of(c.call(u, v)); got != (answer{null, api.ErrArg}) {
					t.Errorf("%s(%v, %v): %v", c.name, u, v, got)
				}
				if got := of(c.call(v, u)); got != (answer{null, api.ErrArg}) {
					t.Errorf("%s(%v, %v): %v", c.name, v, u, got)
				}
			}
		}
		if got := of(value.Not(u)); got != (answer{null, api.ErrArg}) {
			t.Errorf("Not(%v): %v", u, got)
		}
	}
	for _, w := range wrong() {
		if got := of(value.Not(w)); got != (answer{null, api.ErrValue}) {
			t.Errorf("Not(%v): %v", w, got)
		}
	}
}

// P2.4: one value alone is the truth true.
func TestTrue(t *testing.T) {
	for _, v := range append(append(plains(), sums()...), wrong()...) {
		if value.True(v) != (v == yes) {
			t.Errorf("True(%v): %v", v, value.True(v))
		}
	}
	if !value.True(yes) {
		t.Error("True of true is false")
	}
}

// P2.6: Compare is one order: each of three values, whatever they are.
func TestCompareIsOneOrder(t *testing.T) {
	l := plains()
	for _, a := range l {
		for _, b := range l {
			if value.Compare(a, b) != -value.Compare(b, a) || (value.Compare(a, b) == 0) != (a == b) {
				t.Fatalf("Compare of %v and %v: %d, %d", a, b, value.Compare(a, b), value.Compare(b, a))
			}
			for _, c := range l {
				if value.Compare(a, b) <= 0 && value.Compare(b, c) <= 0 && value.Compare(a, c) > 0 {
					t.Fatalf("Compare of %v, %v, %v leads in a ring", a, b, c)
				}
			}
		}
	}
}

// P2.6: Equal and Less tell what Compare tells; null is equal to nothing.
func TestEqualAndLessGoWithCompare(t *testing.T) {
	l := plains()
	for _, a := range l {
		for _, b := range l {
			equal, e := value.Equal(a, b)
			less, f := value.Less(a, b)
			if e != f {
				t.Errorf("Equal and Less of %v and %v: %d, %d", a, b, e, f)
			}
			if value.True(equal) && value.Compare(a, b) != 0 || value.True(less) && value.Compare(a, b) != -1 {
				t.Errorf("of %v and %v: equal %v, less %v, order %d", a, b, equal, less, value.Compare(a, b))
			}
		}
		for _, pair := range [][2]api.Value{{a, null}, {null, a}} {
			if v, e := value.Equal(pair[0], pair[1]); value.True(v) || v != null || e != api.OK {
				t.Errorf("Equal(%v, %v): %v, %d", pair[0], pair[1], v, e)
			}
		}
	}
}

// P2.6: Not of And is Or of the Nots, Not of Or is And of them.
func TestNotOfAnd(t *testing.T) {
	not := func(v api.Value) api.Value {
		v, _ = value.Not(v)
		return v
	}
	for _, a := range truths() {
		for _, b := range truths() {
			and, _ := value.And(a, b)
			or, _ := value.Or(a, b)
			if of(value.Or(not(a), not(b))) != (answer{not(and), api.OK}) || of(value.And(not(a), not(b))) != (answer{not(or), api.OK}) {
				t.Errorf("of %v and %v", a, b)
			}
		}
	}
}

// The chapter's examples, those of Compare and of logic.
func TestExamples(t *testing.T) {
	if value.Compare(null, no) != -1 || value.Compare(number(5), text("a")) != -1 || value.Compare(text("a"), text("ab")) != -1 {
		t.Error("Compare")
	}
	cases := []struct {
		name string
		got  answer
		want answer
	}{
		{"Equal(5, 5)", of(value.Equal(number(5), number(5))), answer{yes, api.OK}},
		{"Equal(5, null)", of(value.Equal(number(5), null)), answer{null, api.OK}},
		{"Equal(5, 'a')", of(value.Equal(number(5), text("a"))), answer{null, api.ErrArg}},
		{"Less(3, 5)", of(value.Less(number(3), number(5))), answer{yes, api.OK}},
		{"And(null, false)", of(value.And(null, no)), answer{no, api.OK}},
		{"Or(null, false)", of(value.Or(null, no)), answer{null, api.OK}},
		{"Not(null)", of(value.Not(null)), answer{null, api.OK}},
		{"And(5, true)", of(value.And(number(5), yes)), answer{null, api.ErrArg}},
	}
	for _, c := range cases {
		if c.got != c.want {
			t.Errorf("%s: %v, not %v", c.name, c.got, c.want)
		}
	}
}
