package exec_test

import (
	"math/big"
	"testing"

	"bowsprit/api"
	"bowsprit/exec"
)

// eachTag are the tags of all aggregates, and eachPart the kinds of what stands for each of them.
var (
	eachTag  = []int{api.AggAll, api.AggCount, api.AggSum, api.AggMin, api.AggMax}
	eachPart = []int{ki, ki, ks, ki, kt}
)

// P20.1: LFinal of no rows comes to one row, if it has no Keys: counts of 0, else nulls; to nothing, if it has some.
func TestFinalOfNoRows(t *testing.T) {
	for _, rows := range [][]api.Row{nil, {}} {
		comesTo(t, []api.LNode{input(0, eachPart...), final(0, eachTag...)}, reads(rows), "0 0 NULL NULL NULL")
		comesTo(t, []api.LNode{input(0, ks), final(0, api.AggSum)}, reads(rows), "NULL")
		comesTo(t, []api.LNode{input(0, kn, kb), final(0, api.AggMax, api.AggMin)}, reads(rows), "NULL NULL")
		comesTo(t, []api.LNode{input(0, append([]int{kb}, eachPart...)...), final(1, eachTag...)}, reads(rows), "")
		comesTo(t, []api.LNode{input(0, ki, kn, kt), final(3)}, reads(rows), "")
		comesTo(t, []api.LNode{input(0, ks, ki), final(0, api.AggSum, api.AggAll), project(col(1), col(0))}, reads(rows), "0 NULL")
	}
}

// finally holds what an LFinal comes to over an input of kinds, and, if these can be told of the rows, by Final.
func finally(t *testing.T, n api.LNode, kinds []int, rows []api.Row, want string) {
	t.Helper()
	comesTo(t, []api.LNode{input(0, kinds...), n}, reads(rows), want)
	if same(kindsByRule(rows), kinds) {
		is(t, exec.Final, n, rows, want)
	}
}

// faults holds that it faults.
func faults(t *testing.T, n api.LNode, kinds []int, rows []api.Row) {
	t.Helper()
	fails(t, []api.LNode{input(0, kinds...), n}, reads(rows), api.ErrFault)
	if same(kindsByRule(rows), kinds) {
		isNone(t, exec.Final, n, rows, api.ErrFault)
	}
}

// P20.1, P20.2: each aggregate of values, of nulls alone, of both; by each kind of key.
func TestFinalOfRows(t *testing.T) {
	finally(t, final(0, eachTag...), eachPart, list("2 1 S12 5 'b' / 1 0 NULL NULL NULL / 3 3 S-2 -7 'a'"), "6 4 10 -7 'b'")
	finally(t, final(0, eachTag...), eachPart, list("NULL NULL NULL NULL NULL / NULL NULL NULL NULL NULL"), "0 0 NULL NULL NULL")
	finally(t, final(0, eachTag...), eachPart, list("NULL NULL NULL NULL NULL"), "0 0 NULL NULL NULL")
	finally(t, final(0, eachTag...), eachPart, list("0 0 S0 0 ''"), "0 0 0 0 ''")
	finally(t, final(0, eachTag...), eachPart, list("-5 7 S1 1 'z' / 3 -8 NULL 1 'z'"), "-2 -1 1 1 'z'") // whatever number stands for a count
	kinds := append([]int{kt}, eachPart...)
	finally(t, final(1, eachTag...), kinds, list("'x' 2 1 S12 5 'b' / NULL 1 1 S1 1 'q' / 'x' 1 1 S3 6 'c' / 'y' NULL NULL NULL NULL NULL / NULL 4 2 NULL 0 NULL"), "NULL 5 3 1 0 'q' / 'x' 3 2 15 5 'c' / 'y' 0 0 NULL NULL NULL")
	finally(t, final(1, api.AggAll, api.AggSum), []int{ki, ki, ks}, list("1 2 S12 / 2 1 NULL / 1 1 S-2"), "1 3 10 / 2 1 NULL")
	finally(t, final(2, api.AggAll), []int{kb, ki, ki}, list("TRUE 1 1 / FALSE 1 2 / TRUE 1 3 / NULL 1 4 / TRUE NULL 5"), "NULL 1 4 / FALSE 1 2 / TRUE NULL 5 / TRUE 1 4")
	finally(t, final(3), []int{ki, ki, kt}, list("1 2 'a' / 1 2 'a' / 1 1 'b'"), "1 1 'b' / 1 2 'a'")
	finally(t, final(1, api.AggMin), []int{kn, kn}, list("NULL NULL / NULL NULL"), "NULL NULL")
}

// P20.1, P20.2: AggMin and AggMax of texts, truths, numbers, and of nothing.
func TestFinalMinMax(t *testing.T) {
	n := final(0, api.AggMin, api.AggMax)
	finally(t, n, []int{kt, kt}, list("'b' 'b' / 'ab' 'ab' / NULL NULL / 'a' 'a' / 'c' 'c'"), "'a' 'c'")
	finally(t, n, []int{kt, kt}, list("NULL 'b' / '' '' / 'a' NULL"), "'' 'b'")
	finally(t, n, []int{kb, kb}, list("TRUE TRUE / FALSE FALSE / NULL NULL"), "FALSE TRUE")
	finally(t, n, []int{kb, kb}, list("TRUE FALSE / NULL NULL"), "TRUE FALSE")
	finally(t, n, []int{ki, ki}, list("10 10 / 9 9 / -3 -3 / NULL NULL"), "-3 10")
	finally(t, n, []int{ki, ki}, list("9223372036854775807 9223372036854775807 / -9223372036854775808 -9223372036854775808"), "-9223372036854775808 9223372036854775807")
	finally(t, n, []int{ki, kt}, list("NULL NULL / NULL NULL"), "NULL NULL")
	finally(t, final(1, api.AggMax, api.AggMin), []int{ki, ki, kb}, list("1 5 TRUE / 2 7 FALSE / 1 6 FALSE / 2 NULL NULL"), "1 6 FALSE / 2 7 FALSE")
}

// P20.1, P20.2: counts are added exactly: a sum that fits 64 bits just, one that does not, one that does not on the way alone.
func TestFinalCounts(t *testing.T) {
	for _, tag := range []int{api.AggAll, api.AggCount} {
		finally(t, final(0, tag), []int{ki}, list("9223372036854775806 / 1"), "9223372036854775807")
		finally(t, final(0, tag), []int{ki}, list("-9223372036854775807 / -1"), "-9223372036854775808")
		finally(t, final(0, tag), []int{ki}, list("9223372036854775807 / 9223372036854775807 / -9223372036854775808 / NULL"), "9223372036854775806")
		finally(t, final(0, tag), []int{ki}, list("-9223372036854775808 / -9223372036854775808 / 9223372036854775807 / 1"), "-9223372036854775808")
		faults(t, final(0, tag), []int{ki}, list("9223372036854775807 / 1"))
		faults(t, final(0, tag), []int{ki}, list("-1 / -9223372036854775808"))
		faults(t, final(1, tag), []int{kt, ki}, list("'a' 1 / 'b' 9223372036854775807 / 'b' 1"))
		finally(t, final(1, tag), []int{kt, ki}, list("'a' 1 / 'b' 9223372036854775807 / 'a' 1"), "'a' 2 / 'b' 9223372036854775807")
	}
}

// parts are rows of one sum under way each.
func parts(l ...*big.Int) []api.Row {
	var rows []api.Row
	for _, x := range l {
		rows = append(rows, api.Row{under(x)})
	}
	return rows
}

// P20.1, P20.2: a sum that fits 64 bits just, at both ends, and by one not; be it of one part, or of several.
func TestFinalSums(t *testing.T) {
	n, kinds := final(0, api.AggSum), []int{ks}
	finally(t, n, kinds, parts(power(63, -1)), "9223372036854775807")
	finally(t, n, kinds, parts(minus(power(63, 0))), "-9223372036854775808")
	faults(t, n, kinds, parts(power(63, 0)))
	faults(t, n, kinds, parts(minus(power(63, 1))))
	faults(t, n, kinds, parts(power(64, 0)))
	faults(t, n, kinds, parts(power(64, 5))) // whose lower half alone would fit
	faults(t, n, kinds, parts(power(127, -1)))
	faults(t, n, kinds, parts(minus(power(127, 0))))
	finally(t, n, kinds, parts(power(63, 0), power(0, -2)), "9223372036854775807")
	finally(t, n, kinds, parts(power(63, -1), power(0, -1), power(63, -1), minus(power(63, 0))), "9223372036854775806")
	finally(t, n, kinds, parts(power(100, 7), minus(power(100, 0))), "7")
	faults(t, n, kinds, parts(power(63, -1), power(0, 0)))
	faults(t, n, kinds, parts(minus(power(63, 0)), power(0, -2)))
	finally(t, n, kinds, append(parts(power(2, 0)), api.Row{null}), "4")
	finally(t, final(1, api.AggSum), []int{ki, ks}, list("1 S9223372036854775807 / 2 S1 / 2 NULL"), "1 9223372036854775807 / 2 1")
	faults(t, final(1, api.AggSum), []int{ki, ks}, list("1 S9223372036854775807 / 2 S1 / 1 S1"))
	faults(t, final(0, api.AggSum, api.AggMin), []int{ks, ki}, list("S9223372036854775808 1"))
	faults(t, final(0, api.AggAll, api.AggSum), []int{ki, ks}, list("1 S9223372036854775808"))
}

// inEachOrder goes over some orders of rows.
func inEachOrder(rows []api.Row, visit func([]api.Row)) {
	for k := range rows {
		turned := append(append([]api.Row{}, rows[k:]...), rows[:k]...)
		visit(turned)
		for a := range turned {
			for b := range a {
				other := with(with(turned, a, turned[b]), b, turned[a])
				visit(other)
			}
		}
	}
}

// P20.1, P20.2: sums that are joined and do not fit 128 bits, and such as do not on the way alone: row by row of the group, which is sorted, in whatever order the rows are handed in.
func TestFinalJoinsBeyond(t *testing.T) {
	high, low, one := power(127, -1), minus(power(127, 0)), big.NewInt(1)
	for _, x := range []struct {
		rows []api.Row
		want string // none: it faults
	}{
		{parts(high, one), ""},
		{parts(low, minus(one)), ""},
		{parts(high, high), ""},
		{parts(low, low), ""},
		{parts(high, low), "-1"},
		{parts(high, low, one), "0"},
		{parts(high, low, big.NewInt(2), minus(one)), ""}, // the lowest one, and less 1; all together it is 0
		{parts(high, minus(high), high, low), ""},         // the two lowest ones; all together it is -1
		{parts(high, minus(high), one, one), "2"},
		{parts(high, minus(one), minus(high)), "-1"}, // on the way the lowest number just
	} {
		inEachOrder(x.rows, func(rows []api.Row) {
			if x.want == "" {
				faults(t, final(0, api.AggSum), []int{ks}, rows)
			} else {
				finally(t, final(0, api.AggSum), []int{ks}, rows, x.want)
			}
		})
	}
}

// P20.1, P20.2: a group's rows are sorted by all of their columns, so that what stands ahead of sums says in which order these are joined; null is left out.
func TestFinalJoinsInOrder(t *testing.T) {
	high, low, one := under(power(127, -1)), under(minus(power(127, 0))), sum(1)
	n, kinds := final(0, api.AggMin, api.AggSum), []int{ki, ks}
	ordered := func(l ...api.Value) (rows []api.Row) {
		for k, v := range l {
			rows = append(rows, api.Row{number(int64(k)), v})
		}
		return rows
	}
	for _, l := range [][]api.Value{{high, one, low}, {one, high, low}, {low, sum(-1), high, sum(2)}, {null, high, null, one, low}} {
		inEachOrder(ordered(l...), func(rows []api.Row) { faults(t, n, kinds, rows) })
	}
	for _, l := range [][]api.Value{{high, low, one}, {low, high, one}, {one, low, high}, {low, high, sum(-1), sum(2), sum(-1), one}, {null, low, null, one, high}} {
		inEachOrder(ordered(l...), func(rows []api.Row) { finally(t, n, kinds, rows, "0 0") })
	}
	for _, rows := range [][]api.Row{{{text("a"), high}, {text("b"), one}, {text("a"), low}}, {{text("b"), one}, {text("a"), low}, {text("a"), high}, {text("b"), null}}} {
		finally(t, final(1, api.AggSum), []int{kt, ks}, rows, "'a' -1 / 'b' 1") // each group by itself
	}
}
