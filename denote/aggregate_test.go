package denote_test

import (
	"math"
	"slices"
	"testing"

	"bowsprit/api"
	"bowsprit/denote"
)

// argTags are those of aggregates that have an Arg.
var argTags = []int{api.AggCount, api.AggSum, api.AggMin, api.AggMax}

// P15.3: each aggregate over numbers, texts, truths and nulls: none of them, nulls alone, some of them, the same ones.
func TestAggregate(t *testing.T) {
	for _, c := range []struct{ rows, count, sum, min, max string }{
		{"", "0", "NULL", "NULL", "NULL"},
		{"NULL", "0", "NULL", "NULL", "NULL"},
		{"NULL / NULL / NULL", "0", "NULL", "NULL", "NULL"},
		{"5", "1", "5", "5", "5"},
		{"5 / NULL", "1", "5", "5", "5"},
		{"NULL / 3 / NULL / -4 / 3", "3", "2", "-4", "3"},
		{"7 / 7 / 7", "3", "21", "7", "7"},
		{"0", "1", "0", "0", "0"},
		{"1 / -1 / NULL", "2", "0", "-1", "1"},
		{"10 / 9 / -9 / -10", "4", "0", "-10", "10"},
		{"TRUE / NULL / FALSE / TRUE", "3", "", "FALSE", "TRUE"},
		{"NULL / TRUE", "1", "", "TRUE", "TRUE"},
		{"FALSE / FALSE", "2", "", "FALSE", "FALSE"},
		{"'b' / NULL / 'ab' / 'b' / ''", "4", "", "''", "'b'"},
		{"'a' / 'ab' / 'B'", "3", "", "'B'", "'ab'"},
		{"NULL / 'x'", "1", "", "'x'", "'x'"},
		{"'a' / 5 / TRUE / NULL", "3", "", "TRUE", "'a'"},
		{"5 / FALSE / -3", "3", "", "FALSE", "5"},
	} {
		l := list(c.rows)
		for range 2 {
			is(t, number(int64(len(l))))(denote.Aggregate(agg(api.AggAll), l))
			for k, want := range []string{c.count, c.sum, c.min, c.max} {
				a := agg(argTags[k], col(0))
				if want == "" {
					isNot(t, api.ErrArg)(denote.Aggregate(a, l))
				} else {
					is(t, written(want))(denote.Aggregate(a, l))
				}
			}
			slices.Reverse(l)
		}
	}
}

// P15.3: sums at the ends of 64 bits; beyond them on the way and back; beyond them at last.
func TestSums(t *testing.T) {
	sum := func(l ...int64) (api.Value, api.Errno) {
		var rows []api.Row
		for _, n := range l {
			rows = append(rows, api.Row{null, number(n)}, api.Row{number(1), null})
		}
		return denote.Aggregate(agg(api.AggSum, col(1)), rows)
	}
	is(t, number(most))(sum(most))
	is(t, number(least))(sum(least))
	is(t, number(most))(sum(most-1, 1))
	is(t, number(least))(sum(-1, least+1))
	is(t, number(-1))(sum(most, least))
	is(t, number(most))(sum(most, most, most, -most, -most))
	is(t, number(most))(sum(most, 1, -1))
	is(t, number(least))(sum(least, -1, 1))
	is(t, number(0))(sum(least, least, most, most, 2))
	is(t, number(least))(sum(least, least, least, most, most, 2))
	is(t, number(most-1))(sum(most, most, least))
	for _, l := range [][]int64{{most, 1}, {1, most}, {least, -1}, {most, most}, {least, least}, {least, least, most, most, 1, -most, -2}} {
		isNot(t, api.ErrFault)(sum(l...))
	}
	many := slices.Repeat([]int64{most}, api.MaxList/2)
	isNot(t, api.ErrFault)(sum(many...))
	for k := range len(many) / 2 {
		many[k] = -most
	}
	is(t, number(0))(sum(many...))
}

// P15.3: no rows, as many as MaxList, and one more, whatever the Tag.
func TestAggregateOfMany(t *testing.T) {
	l := counted(api.MaxList + 1)
	for tag := api.AggAll; tag <= api.AggMax; tag++ {
		a := agg(tag, col(0))
		if tag == api.AggAll {
			a = agg(tag)
		}
		want := map[int]int64{api.AggAll: 8000, api.AggCount: 8000, api.AggSum: 8000 * 8001 / 2, api.AggMin: 1, api.AggMax: 8000}[tag]
		is(t, number(want))(denote.Aggregate(a, l[:api.MaxList]))
		isNot(t, api.ErrArg)(denote.Aggregate(a, l))
		isNot(t, api.ErrArg)(denote.Aggregate(a, make([]api.Row, 1<<20)))
		if tag > api.AggCount {
			is(t, null)(denote.Aggregate(a, nil))
		} else {
			is(t, number(0))(denote.Aggregate(a, []api.Row{}))
		}
	}
}

// P15.3: a row that may not be, wherever it stands, and though nothing of it is asked.
func TestAggregateOfNoRows(t *testing.T) {
	var wrong []api.Row
	for _, v := range noValues() {
		wrong = append(wrong, api.Row{v}, api.Row{number(1), v})
	}
	wrong = append(wrong, make(api.Row, api.MaxWidth+1), make(api.Row, 1<<16))
	for _, r := range wrong {
		for place := range 3 {
			l := slices.Insert(list("1 2 / 3 4"), place, r)
			isNot(t, api.ErrArg)(denote.Aggregate(agg(api.AggAll), l))
			for _, tag := range argTags {
				isNot(t, api.ErrArg)(denote.Aggregate(agg(tag, col(0)), l))
				isNot(t, api.ErrArg)(denote.Aggregate(agg(tag, num(1)), l))
			}
		}
	}
	is(t, number(2))(denote.Aggregate(agg(api.AggAll), []api.Row{nil, make(api.Row, api.MaxWidth)}))
}

// P15.3: a Tag that is none, and an Arg that may not be, of rows and of none.
func TestNoAggregates(t *testing.T) {
	for _, l := range [][]api.Row{nil, list("1"), list("NULL / 2")} {
		for _, tag := range []int{0, api.AggMax + 1, -1, -5, math.MaxInt, math.MinInt, 256 + api.AggSum, 1<<32 + api.AggAll} {
			isNot(t, api.ErrArg)(denote.Aggregate(agg(tag), l))
			isNot(t, api.ErrArg)(denote.Aggregate(agg(tag, col(0)), l))
		}
		for _, x := range noExprs() {
			for _, tag := range argTags {
				isNot(t, api.ErrArg)(denote.Aggregate(agg(tag, x), l))
			}
			if len(x.Nodes) > 0 {
				isNot(t, api.ErrArg)(denote.Aggregate(agg(api.AggAll, x), l))
			} else {
				is(t, number(int64(len(l))))(denote.Aggregate(agg(api.AggAll, x), l))
			}
		}
		isNot(t, api.ErrArg)(denote.Aggregate(agg(api.AggAll, col(0)), l))
		isNot(t, api.ErrArg)(denote.Aggregate(agg(api.AggAll, num(1)), l))
	}
}

// P15.3: an Arg that can't be asked of each row: of a column that one row has not, of a sum under way, of values that do not go together. Of no rows nothing is asked.
func TestArgThatCannotBeAsked(t *testing.T) {
	wrongs := []struct {
		arg  api.Expr
		good []api.Row
		bad  api.Row
	}{
		{col(1), list("1 2 / 3 NULL"), list("5")[0]},
		{col(1), list("1 2 / 3 NULL"), api.Row{}},
		{col(0), list("1 / NULL"), api.Row{valueOf[api.VSum]}},
		{on(api.NIsNull, col(0)), list("1 / NULL"), api.Row{valueOf[api.VSum]}},
		{on(api.NAdd, col(0), num(1)), list("1 / NULL"), list("'a'")[0]},
		{on(api.NNeg, col(0)), list("1 / NULL"), list("TRUE")[0]},
		{on(api.NNot, on(api.NIsNull, on(api.NEq, col(0), col(1)))), list("1 2 / TRUE TRUE / 'a' NULL"), list("1 'a'")[0]},
		{on(api.NAnd, col(0), lit(no)), list("TRUE / NULL"), list("0")[0]},
	}
	for _, w := range wrongs {
		for _, tag := range argTags {
			a := agg(tag, w.arg)
			for place := range len(w.good) + 1 {
				isNot(t, api.ErrArg)(denote.Aggregate(a, slices.Insert(slices.Clone(w.good), place, w.bad)))
			}
			if _, e := denote.Aggregate(a, w.good); e != api.OK && (e != api.ErrArg || tag != api.AggSum) {
				t.Error(w, tag, e)
			}
			if _, e := denote.Aggregate(a, nil); e != api.OK {
				t.Error(w, tag, e)
			}
		}
	}
	is(t, number(2))(denote.Aggregate(agg(api.AggSum, col(1)), []api.Row{{valueOf[api.VSum], number(2)}}))
	is(t, number(1))(denote.Aggregate(agg(api.AggAll), []api.Row{{valueOf[api.VSum]}}))
	for k, want := range []int64{3, 6, 1, 3} {
		is(t, number(want))(denote.Aggregate(agg(argTags[k], col(0)), list("1 / 2 5 / NULL 'a' TRUE / 3 'a'")))
	}
}

// P15.3: a sum of texts and of truths, wherever they stand among numbers and nulls.
func TestSumsOfNoNumbers(t *testing.T) {
	for _, v := range []api.Value{yes, no, text(""), text("1")} {
		for place := range 4 {
			l := slices.Insert(list("1 / NULL / 2"), place, api.Row{v})
			isNot(t, api.ErrArg)(denote.Aggregate(agg(api.AggSum, col(0)), l))
			is(t, number(3))(denote.Aggregate(agg(api.AggCount, col(0)), l))
		}
		isNot(t, api.ErrArg)(denote.Aggregate(agg(api.AggSum, lit(v)), list("1")))
		is(t, null)(denote.Aggregate(agg(api.AggSum, lit(v)), nil))
	}
	isNot(t, api.ErrArg)(denote.Aggregate(agg(api.AggSum, on(api.NIsNull, col(0))), list("NULL")))
}

// P15.3: a row of which the Arg faults, wherever it stands; what is wrong goes ahead of it, whichever comes first.
func TestAggregateFaults(t *testing.T) {
	arg := on(api.NDiv, num(8), col(0))
	for _, tag := range argTags {
		a := agg(tag, arg)
		for place := range 4 {
			l := slices.Insert(list("1 / NULL / 2"), place, list("0")...)
			isNot(t, api.ErrFault)(denote.Aggregate(a, l))
			for _, bad := range []api.Row{list("'a'")[0], list("TRUE")[0], {}, {valueOf[api.VSum]}, {api.Value{N: 1}}} {
				for other := range 5 {
					isNot(t, api.ErrArg)(denote.Aggregate(a, slices.Insert(slices.Clone(l), other, bad)))
				}
			}
		}
		isNot(t, api.ErrArg)(denote.Aggregate(a, slices.Repeat(list("0"), api.MaxList+1)))
		isNot(t, api.ErrFault)(denote.Aggregate(a, slices.Repeat(list("0"), api.MaxList)))
	}
	guarded := on(api.NAdd, on(api.NDiv, num(1), col(0)), col(1)) // of a row of which both are wrong the first node says it: that faults
	isNot(t, api.ErrFault)(denote.Aggregate(agg(api.AggCount, guarded), list("0 'a' / 1 1")))
	isNot(t, api.ErrArg)(denote.Aggregate(agg(api.AggCount, guarded), list("0 'a' / 1 'a'")))
	isNot(t, api.ErrArg)(denote.Aggregate(agg(api.AggSum, col(0)), list("9223372036854775807 / 1 / 'a'")))
	for _, rows := range []string{"0 / 1", "1 / 0", "0 / NULL / 0 / 5"} { // a sum of truths, of which one faults
		isNot(t, api.ErrArg)(denote.Aggregate(agg(api.AggSum, on(api.NEq, arg, num(8))), list(rows)))
		isNot(t, api.ErrFault)(denote.Aggregate(agg(api.AggMax, on(api.NEq, arg, num(8))), list(rows)))
	}
	isNot(t, api.ErrFault)(denote.Aggregate(agg(api.AggSum, on(api.NEq, arg, num(8))), list("NULL / 0")))
}
