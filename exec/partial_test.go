package exec_test

import (
	"math/big"
	"testing"

	"bowsprit/api"
	"bowsprit/exec"
)

// P20.1: LPartial of no rows comes to nothing, with Keys and without, whatever its Aggs are.
func TestPartialOfNoRows(t *testing.T) {
	for _, rows := range [][]api.Row{nil, {}} {
		for _, keys := range [][]int{nil, {}, {0}, {0, 0, 0}} {
			for _, aggs := range [][]api.Agg{eachAgg(col(0)), eachAgg(bad(0, 1)), {agg(api.AggAll)}, {agg(api.AggSum, num(most))}} {
				comesTo(t, []api.LNode{input(0, ki), partial(keys, aggs...)}, reads(rows), "")
				comesTo(t, []api.LNode{scan(0, ki), filter(lit(no)), partial(keys, aggs...)}, scans(counted(3)), "")
			}
		}
	}
	comesTo(t, []api.LNode{input(0, ki), partial([]int{0})}, reads(nil), "")
}

// partly holds what an LPartial comes to, as a fragment's root and by Partial.
func partly(t *testing.T, n api.LNode, rows []api.Row, want string) {
	t.Helper()
	is(t, exec.Partial, n, rows, want)
	kinds := kindsByRule(rows)
	comesTo(t, []api.LNode{input(0, kinds...), n}, reads(rows), want)
}

// P20.2: each aggregate of rows, of nulls, of both; by each kind of key.
func TestPartialOfRows(t *testing.T) {
	rows := list("2 'b' TRUE 5 / 1 'a' NULL NULL / 2 'b' FALSE 7 / NULL NULL NULL NULL / 1 NULL TRUE NULL / 2 'c' FALSE NULL")
	partly(t, partial([]int{0}, eachAgg(col(3))...), rows, "NULL 1 0 NULL NULL NULL / 1 2 0 NULL NULL NULL / 2 3 2 S12 5 7")
	partly(t, partial([]int{1}, eachAgg(col(0))...), rows, "NULL 2 1 S1 1 1 / 'a' 1 1 S1 1 1 / 'b' 2 2 S4 2 2 / 'c' 1 1 S2 2 2")
	partly(t, partial([]int{2}, agg(api.AggMin, col(1)), agg(api.AggMax, col(1)), agg(api.AggCount, col(1))), rows, "NULL 'a' 'a' 1 / FALSE 'b' 'c' 2 / TRUE 'b' 'b' 1")
	partly(t, partial([]int{0}, agg(api.AggMin, col(2)), agg(api.AggMax, col(2))), rows, "NULL NULL NULL / 1 TRUE TRUE / 2 FALSE TRUE")
	partly(t, partial([]int{2, 0}, agg(api.AggAll), agg(api.AggSum, num(3))), rows, "NULL NULL 1 S3 / NULL 1 1 S3 / FALSE 2 2 S6 / TRUE 1 1 S3 / TRUE 2 1 S3")
	partly(t, partial(nil, eachAgg(col(0))...), rows, "6 5 S8 1 2")
	partly(t, partial(nil, eachAgg(lit(null))...), rows, "6 0 NULL NULL NULL")
	partly(t, partial(nil, eachAgg(on(api.NAdd, col(0), col(3)))...), rows, "6 2 S16 7 9")
	partly(t, partial([]int{0, 0, 1}), rows, "NULL NULL NULL / 1 1 NULL / 1 1 'a' / 2 2 'b' / 2 2 'c'")
	partly(t, partial(nil, agg(api.AggSum, col(0)), agg(api.AggSum, num(0)), agg(api.AggAll), agg(api.AggSum, col(3))), rows, "S8 S0 6 S12")
	partly(t, partial([]int{0}, agg(api.AggSum, on(api.NSub, col(0), col(0)))), rows, "NULL NULL / 1 S0 / 2 S0") // 0 is not null
	partly(t, partial(nil, eachAgg(col(1))[3:]...), list("NULL NULL / NULL 'z' / NULL '' / NULL 'a'"), "'' 'z'")
}

// sums are rows of one number each, and the sum that is under way of them.
type sums struct {
	terms []int64
	sum   string
}

// P20.2: a sum under way at the ends of 64 bits, and beyond them; it comes back.
func TestPartialSums(t *testing.T) {
	for _, x := range []sums{
		{[]int64{most}, "S9223372036854775807"},
		{[]int64{most, 1}, "S9223372036854775808"},
		{[]int64{most, most}, "S18446744073709551614"},
		{[]int64{most, most, 1, 1}, "S18446744073709551616"},
		{[]int64{most, most, most}, "S27670116110564327421"},
		{[]int64{least}, "S-9223372036854775808"},
		{[]int64{least, -1}, "S-9223372036854775809"},
		{[]int64{least, least, least}, "S-27670116110564327424"},
		{[]int64{most, 1, least}, "S0"},
		{[]int64{most, most, least, least}, "S-2"},
		{[]int64{-1}, "S-1"}, {[]int64{0}, "S0"}, {[]int64{1, -1, 0}, "S0"},
	} {
		var rows []api.Row
		for _, n := range x.terms {
			rows = append(rows, api.Row{number(n), text("k")})
		}
		partly(t, partial(nil, agg(api.AggSum, col(0))), rows, x.sum)
		partly(t, partial([]int{1}, agg(api.AggSum, col(0)), agg(api.AggCount, col(0))), append(rows, api.Row{null, text("k")}), "'k' "+x.sum+" "+big.NewInt(int64(len(rows))).String())
	}
	var all []api.Row // as many as Partial takes
	for range api.MaxList {
		all = append(all, api.Row{number(least)})
	}
	want := new(big.Int).Mul(big.NewInt(least), big.NewInt(api.MaxList))
	is(t, exec.Partial, partial(nil, agg(api.AggSum, col(0)), agg(api.AggAll)), all, "S"+want.String()+" 8000")
}

// P20.2: an Arg that faults of whichever row.
func TestPartialFaults(t *testing.T) {
	rows := list("1 5 / 2 6 / 1 7 / NULL 8")
	for k, wrong := range []int64{1, 2, 5, 6, 7, 8} {
		column := min(k/2, 1)
		for _, keys := range [][]int{nil, {0}, {1}, {1, 0}} {
			for place, a := range eachAgg(bad(column, wrong)) {
				n := partial(keys, with(eachAgg(col(0)), place, a)...)
				if place == 0 { // AggAll asks nothing
					continue
				}
				isNone(t, exec.Partial, n, rows, api.ErrFault)
				fails(t, []api.LNode{scan(0, ki, ki), n}, scans(rows), api.ErrFault)
			}
		}
	}
	isNone(t, exec.Partial, partial([]int{0}, agg(api.AggCount, on(api.NAdd, col(0), num(most)))), list("0 / -1 / 1"), api.ErrFault)
	is(t, exec.Partial, partial([]int{0}, agg(api.AggCount, on(api.NAdd, col(0), num(most)))), list("0 / -1 / NULL"), "NULL 0 / -1 1 / 0 1")
}

// P20.2: Partial comes to as many rows as there are groups, be these more than MaxRows.
func TestPartialOfManyGroups(t *testing.T) {
	for _, size := range []int{1, api.MaxRows, api.MaxRows + 1, api.MaxList} {
		got, e := exec.Partial(partial([]int{0}), counted(size))
		if e != api.OK || !same(got, counted(size)) {
			t.Errorf("%v: %v rows, %v", size, len(got), e)
		}
		got, e = exec.Final(final(1), counted(size))
		if e != api.OK || !same(got, counted(size)) {
			t.Errorf("%v: %v rows, %v", size, len(got), e)
		}
	}
	for _, size := range []int{api.MaxList + 1, api.MaxList + 2, 3 * api.MaxList} {
		isNone(t, exec.Partial, partial([]int{0}), counted(size), api.ErrArg)
		isNone(t, exec.Partial, partial(nil, agg(api.AggAll)), counted(size), api.ErrArg)
		isNone(t, exec.Final, final(1), counted(size), api.ErrArg)
		isNone(t, exec.Final, final(0, api.AggMin), counted(size), api.ErrArg)
	}
}

// P20.2: the order of rows that are handed in makes no difference.
func TestPartialInEachOrder(t *testing.T) {
	rows := list("3 1 / 1 9223372036854775807 / 2 NULL / 1 9223372036854775807 / 3 -4")
	for range rows {
		rows = append(rows[1:], rows[0])
		partly(t, partial([]int{0}, eachAgg(col(1))...), rows, "1 2 2 S18446744073709551614 9223372036854775807 9223372036854775807 / 2 1 0 NULL NULL NULL / 3 2 2 S-3 -4 1")
	}
}
