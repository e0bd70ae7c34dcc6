package expr_test

import (
	"math/rand"
	"slices"
	"testing"

	"bowsprit/api"
	"bowsprit/expr"
	"bowsprit/value"
)

// typed is an expression of a kind over columns of kinds: a part of it may be null instead.
func typed(r *rand.Rand, kind, depth int, kinds []int) api.Expr {
	if depth == 0 || kind == api.VText || kind == api.VNull {
		return typedLeaf(r, kind, kinds)
	}
	part := func(kind int) api.Expr {
		if r.Intn(10) == 0 {
			kind = api.VNull
		}
		return typed(r, kind, depth-1, kinds)
	}
	switch {
	case kind == api.VInt && r.Intn(4) == 0:
		return on(api.NNeg, part(api.VInt))
	case kind == api.VInt:
		return on(sums[r.Intn(len(sums))], part(api.VInt), part(api.VInt))
	}
	switch r.Intn(8) {
	case 0:
		return on(api.NNot, part(api.VBool))
	case 1:
		return on(onePart[2+r.Intn(2)], part(r.Intn(4)))
	case 2, 3:
		return on(api.NOr, part(api.VBool), part(api.VBool))
	case 4, 5:
		return on(api.NAnd, part(api.VBool), part(api.VBool))
	}
	both := r.Intn(4)
	return on(tests[r.Intn(len(tests))], part(both), part(both))
}

// typedLeaf is a column of that kind, if there is one, or a literal.
func typedLeaf(r *rand.Rand, kind int, kinds []int) api.Expr {
	if n := r.Intn(len(kinds)); kinds[n] == kind {
		return col(n)
	}
	values := slices.DeleteFunc(plain(), func(v api.Value) bool { return v.Kind != kind })
	return lit(values[r.Intn(len(values))])
}

// rowOf is a row of columns of kinds, some of them null; small numbers as often as great ones.
func rowOf(r *rand.Rand, kinds []int) api.Row {
	row := api.Row{}
	for _, kind := range kinds {
		values := slices.DeleteFunc(plain(), func(v api.Value) bool { return v.Kind != kind })
		v := values[r.Intn(len(values))]
		switch {
		case r.Intn(5) == 0:
			v = null
		case kind == api.VInt && r.Intn(2) == 0:
			v = number(int64(r.Intn(7) - 3))
		}
		row = append(row, v)
	}
	return row
}

// anyKinds are kinds of so many columns.
func anyKinds(r *rand.Rand, count int) []int {
	l := make([]int, count)
	for k := range l {
		l[k] = r.Intn(4)
	}
	return l
}

// P10.9: of its kinds' row it comes to a value of its kind, to null, or faults; and does not fault, if it is safe.
func TestComesToItsKind(t *testing.T) {
	r := rand.New(rand.NewSource(191))
	values, nulls, faults, safe := 0, 0, 0, 0
	for range 20000 {
		kinds := anyKinds(r, 1+r.Intn(5))
		x := typed(r, r.Intn(4), r.Intn(5), kinds)
		kind, e := expr.Kind(x, kinds)
		if e != api.OK {
			t.Fatalf("%v over %v: %v", x, kinds, e)
		}
		row := rowOf(r, kinds)
		v, e := expr.Eval(x, row)
		switch {
		case e == api.ErrFault:
			faults++
		case e != api.OK || !areOf(kind, v):
			t.Errorf("%v of %v, of the kind %v: %v, %v", x, row, kind, v, e)
		case v == null:
			nulls++
		default:
			values++
		}
		if expr.Safe(x) {
			safe++
			if e != api.OK {
				t.Errorf("%v of %v: %v, and is safe", x, row, e)
			}
		}
	}
	if values < 1000 || nulls < 1000 || faults < 1000 || safe < 1000 {
		t.Error(values, nulls, faults, safe)
	}
}

// P10.9: what has a kind is asked of no kinds that do not go together, whatever it is made of.
func TestKindsGoTogether(t *testing.T) {
	r := rand.New(rand.NewSource(192))
	some := 0
	for range 20000 {
		kinds := anyKinds(r, 3)
		x := anyExpr(r, 3, 3)
		if kind, e := expr.Kind(x, kinds); e == api.OK {
			some++
			row := rowOf(r, kinds)
			if v, e := expr.Eval(x, row); e != api.ErrFault && (e != api.OK || !areOf(kind, v)) {
				t.Errorf("%v of %v, of the kind %v: %v, %v", x, row, kind, v, e)
			}
		}
	}
	if some < 1000 {
		t.Error(some)
	}
}

// P10.9: it hangs on its own columns alone, whatever the others are, and how many.
func TestOwnColumnsAlone(t *testing.T) {
	r := rand.New(rand.NewSource(193))
	values, wrong := plain(), unplain()
	for range 5000 {
		kinds := anyKinds(r, 6)
		x := typed(r, r.Intn(4), 3, kinds)
		row := rowOf(r, kinds)
		v, e := expr.Eval(x, row)
		cols := expr.Cols(x)
		last := -1
		other := append(slices.Clone(row), make(api.Row, r.Intn(20))...)
		for n := range other {
			switch {
			case slices.Contains(cols, n):
				last = n
			case r.Intn(2) == 0:
				other[n] = values[r.Intn(len(values))]
			default:
				other[n] = wrong[r.Intn(len(wrong))]
			}
		}
		for _, row := range []api.Row{other, other[:last+1], row[:last+1]} {
			if w, f := expr.Eval(x, row); w != v || f != e {
				t.Errorf("%v of %v: %v, %v, not %v, %v", x, row, w, f, v, e)
			}
		}
		if last >= 0 {
			if w, f := expr.Eval(x, row[:last]); w != null || f != api.ErrArg {
				t.Errorf("%v of %v: %v, %v", x, row[:last], w, f)
			}
		}
	}
}

// P10.9: what all of Ands come to, put together by And, is what it comes to, unless one faults; and so is what All of them comes to.
func TestAndsComeToIt(t *testing.T) {
	r := rand.New(rand.NewSource(194))
	seen := map[api.Value]int{}
	faults := 0
	for range 20000 {
		kinds := anyKinds(r, 4)
		x := typed(r, api.VBool, 2, kinds)
		for range r.Intn(4) {
			if y := typed(r, api.VBool, r.Intn(3), kinds); r.Intn(2) == 0 {
				x = on(api.NAnd, x, y)
			} else {
				x = on(api.NAnd, y, x)
			}
		}
		row := rowOf(r, kinds)
		want, faulted := yes, false
		ands := expr.Ands(x)
		for _, y := range ands {
			v, e := expr.Eval(y, row)
			faulted = faulted || e == api.ErrFault
			if want, e = value.And(want, v); e != api.OK {
				t.Fatal(y, row, v, e)
			}
		}
		v, e := expr.Eval(x, row)
		if faulted && e != api.ErrFault || !faulted && (e != api.OK || v != want) {
			t.Errorf("%v of %v: %v, %v, not %v, %v", x, row, v, e, want, faulted)
		}
		all, err := expr.All(ands)
		if w, f := expr.Eval(all, row); err != api.OK || w != v || f != e {
			t.Errorf("all of %v of %v: %v, %v, not %v, %v", x, row, w, f, v, e)
		}
		if faulted {
			faults++
		} else {
			seen[want]++
		}
	}
	if faults < 500 || seen[yes] < 500 || seen[no] < 500 || seen[null] < 500 {
		t.Error(faults, seen)
	}
}

// P10.9: Put comes to what it comes to of the row of what l's come to, if none of them faults.
func TestPutComesToIt(t *testing.T) {
	r := rand.New(rand.NewSource(195))
	values, faults := 0, 0
	for range 20000 {
		kinds, inner := anyKinds(r, 4), anyKinds(r, 4)
		x := typed(r, r.Intn(4), 3, inner)
		row := rowOf(r, kinds)
		var l []api.Expr
		var between api.Row
		for _, kind := range inner {
			y := typed(r, kind, r.Intn(3), kinds)
			v, e := expr.Eval(y, row)
			if e == api.OK {
				l, between = append(l, y), append(between, v)
				continue
			}
			l, between = append(l, lit(valueOf(kind))), append(between, valueOf(kind))
		}
		put, err := expr.Put(x, l)
		want, e := expr.Eval(x, between)
		if v, f := expr.Eval(put, row); err != api.OK || v != want || f != e {
			t.Errorf("%v of %v, put into %v: %v, %v, not %v, %v", l, row, x, v, f, want, e)
		}
		was, _ := expr.Kind(x, inner)
		if kind, e := expr.Kind(put, kinds); e != api.OK || kind != was {
			t.Errorf("%v put into %v: of %v, %v, not %v", l, x, kind, e, was)
		}
		if e == api.OK {
			values++
		} else {
			faults++
		}
	}
	if values < 1000 || faults < 1000 {
		t.Error(values, faults)
	}
}

// P10.7, P10.9: shifted it comes to the same of a row with as many values more ahead.
func TestShiftComesToIt(t *testing.T) {
	r := rand.New(rand.NewSource(196))
	for range 5000 {
		kinds := anyKinds(r, 4)
		x := typed(r, r.Intn(4), 3, kinds)
		row := rowOf(r, kinds)
		by := r.Intn(api.MaxWidth - 3)
		y, err := expr.Shift(x, by)
		want, e := expr.Eval(x, row)
		if v, f := expr.Eval(y, append(make(api.Row, by), row...)); err != api.OK || v != want || f != e {
			t.Errorf("%v by %v of %v: %v, %v, not %v, %v", x, by, row, v, f, want, e)
		}
		if back, err := expr.Shift(y, -by); err != api.OK || !same(back, x) {
			t.Errorf("%v by %v and back: %v, %v", x, by, back, err)
		}
	}
}
