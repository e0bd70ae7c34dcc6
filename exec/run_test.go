package exec_test

import (
	"slices"
	"testing"

	"bowsprit/api"
	"bowsprit/exec"
)

// chapters are the chapter's rows, of a and b.
func chapters() []api.Row {
	return list("1 5 / 1 7 / 2 NULL")
}

// P20.1 to P20.3: the chapter's examples.
func TestExamples(t *testing.T) {
	n := partial([]int{0}, agg(api.AggAll), agg(api.AggSum, col(1)))
	is(t, exec.Partial, n, chapters(), "1 2 S12 / 2 1 NULL")
	is(t, exec.Final, final(1, api.AggAll, api.AggSum), list("1 2 S12 / 2 1 NULL / 1 1 S-2"), "1 3 10 / 2 1 NULL")
	comesTo(t, []api.LNode{scan(0, ki, ki), filter(on(api.NGt, col(1), num(5)))}, scans(chapters()), "1 7")
	fails(t, []api.LNode{scan(0, ki)}, scans(counted(201)), api.ErrOver)
	goTo(t, goes([]int{ki, ki}, api.WayGather), chapters(), 3, chapters())
	if got := exec.Inputs(frag(input(4, ki), input(2, ki), union())); !slices.Equal(got, []int{4, 2}) {
		t.Error(got)
	}
}

// mixed are the kinds of rows that have all plain kinds, and mixedRows such rows.
var mixed = []int{ki, kt, kb}

func mixedRows() []api.Row {
	return list("3 'b' TRUE / 1 'a' NULL / 3 'b' TRUE / NULL NULL NULL / 2 '' FALSE / 3 'a' FALSE / NULL 'b' TRUE")
}

// overMixed are nodes that stand over one part of mixedRows, and what they come to.
func overMixed() []struct {
	node api.LNode
	want string
} {
	return []struct {
		node api.LNode
		want string
	}{
		{filter(on(api.NGt, col(0), num(1))), "2 '' FALSE / 3 'a' FALSE / 3 'b' TRUE / 3 'b' TRUE"},
		{filter(col(2)), "NULL 'b' TRUE / 3 'b' TRUE / 3 'b' TRUE"},
		{filter(lit(null)), ""},
		{filter(lit(yes)), "NULL NULL NULL / NULL 'b' TRUE / 1 'a' NULL / 2 '' FALSE / 3 'a' FALSE / 3 'b' TRUE / 3 'b' TRUE"},
		{group([]int{2, 1}), "NULL NULL / NULL 'a' / FALSE '' / FALSE 'a' / TRUE 'b'"},
		{group([]int{0}, eachAgg(col(1))[3:]...), "NULL 'b' 'b' / 1 'a' 'a' / 2 '' '' / 3 'a' 'b'"},
		{group([]int{2}, eachAgg(col(0))...), "NULL 2 1 1 1 1 / FALSE 2 2 5 2 3 / TRUE 3 2 6 3 3"},
		{group(nil, eachAgg(col(0))...), "7 5 12 1 3"},
		{group(nil, agg(api.AggMin, col(2)), agg(api.AggMax, col(2)), agg(api.AggCount, lit(null)), agg(api.AggSum, lit(null))), "FALSE TRUE 0 NULL"},
		{project(col(1), on(api.NMul, col(0), num(-1)), num(7), lit(null)), "NULL NULL 7 NULL / '' -2 7 NULL / 'a' -3 7 NULL / 'a' -1 7 NULL / 'b' NULL 7 NULL / 'b' -3 7 NULL / 'b' -3 7 NULL"},
		{distinct(), "NULL NULL NULL / NULL 'b' TRUE / 1 'a' NULL / 2 '' FALSE / 3 'a' FALSE / 3 'b' TRUE"},
		{sortBy(-1, down(1), up(0)), "NULL 'b' TRUE / 3 'b' TRUE / 3 'b' TRUE / 1 'a' NULL / 3 'a' FALSE / 2 '' FALSE / NULL NULL NULL"},
		{sortBy(3, down(1), down(0)), "3 'b' TRUE / 3 'b' TRUE / NULL 'b' TRUE"},
		{sortBy(2), "NULL NULL NULL / NULL 'b' TRUE"},
		{sortBy(0), ""},
		{partial([]int{2}, eachAgg(col(0))...), "NULL 2 1 S1 1 1 / FALSE 2 2 S5 2 3 / TRUE 3 2 S6 3 3"},
		{partial(nil, eachAgg(col(0))...), "7 5 S12 1 3"},
		{partial([]int{1, 1}), "NULL NULL / '' '' / 'a' 'a' / 'b' 'b'"},
	}
}

// P20.1: each Op of one part, over a scan, over an input; the rows come as if sorted, in whatever order they are handed in.
func TestEachOpOfOnePart(t *testing.T) {
	rows := mixedRows()
	for _, x := range overMixed() {
		for range rows {
			rows = append(rows[1:], rows[0])
			for _, leaf := range []api.LNode{scan(1, mixed...), input(1, mixed...)} {
				comesTo(t, []api.LNode{leaf, x.node}, data{Tables: [][]api.Row{nil, rows}, Inputs: [][]api.Row{nil, rows}}, x.want)
			}
		}
	}
}

// P20.1: a leaf alone: its rows, sorted; a scan those of its table, an input those of its own number.
func TestLeaves(t *testing.T) {
	d := data{Tables: [][]api.Row{list("3 / 1 / 2"), list("'b' / NULL")}, Inputs: [][]api.Row{list("6 / 4 / 4"), nil, list("S5 / S-1 / NULL / S18446744073709551616")}}
	comesTo(t, []api.LNode{scan(0, ki)}, d, "1 / 2 / 3")
	comesTo(t, []api.LNode{scan(1, kt)}, d, "NULL / 'b'")
	comesTo(t, []api.LNode{input(0, ki)}, d, "4 / 4 / 6")
	comesTo(t, []api.LNode{input(1, kb, kb)}, d, "")
	comesTo(t, []api.LNode{input(2, ks)}, d, "NULL / S-1 / S5 / S18446744073709551616")
	d.Tables = [][]api.Row{nil, nil, nil, list("2 / 1")}
	d.Inputs = make([][]api.Row, api.MaxFrags)
	d.Inputs[api.MaxFrags-1] = list("TRUE / FALSE")
	comesTo(t, []api.LNode{scan(api.MaxTables-1, ki)}, d, "1 / 2")
	comesTo(t, []api.LNode{input(api.MaxFrags-1, kb)}, d, "FALSE / TRUE")
	comesTo(t, []api.LNode{scan(0, ki)}, d, "")
}

// P20.1: each Op of two parts, over scans, inputs, and one of each.
func TestEachOpOfTwoParts(t *testing.T) {
	a, b := list("2 'x' / 1 'y' / NULL 'z'"), list("TRUE 2 / NULL 2 / FALSE 1 / TRUE NULL / TRUE 7")
	kindsA, kindsB := []int{ki, kt}, []int{kb, ki}
	d := data{Tables: [][]api.Row{a, b}, Inputs: [][]api.Row{a, b}}
	for _, left := range []api.LNode{scan(0, kindsA...), input(0, kindsA...)} {
		for _, right := range []api.LNode{scan(1, kindsB...), input(1, kindsB...)} {
			over := func(n api.LNode, want string) {
				t.Helper()
				comesTo(t, []api.LNode{left, right, n}, d, want)
			}
			over(join(eq(0, 3)), "1 'y' FALSE 1 / 2 'x' NULL 2 / 2 'x' TRUE 2")
			over(leftJoin(eq(0, 3)), "NULL 'z' NULL NULL / 1 'y' FALSE 1 / 2 'x' NULL 2 / 2 'x' TRUE 2")
			over(leftJoin(lit(no)), "NULL 'z' NULL NULL / 1 'y' NULL NULL / 2 'x' NULL NULL")
			over(leftJoin(lit(null)), "NULL 'z' NULL NULL / 1 'y' NULL NULL / 2 'x' NULL NULL")
			over(join(lit(null)), "")
			over(join(on(api.NAnd, col(2), on(api.NLt, col(0), col(3)))), "1 'y' TRUE 2 / 1 'y' TRUE 7 / 2 'x' TRUE 7")
			over(leftJoin(col(2)), "NULL 'z' TRUE NULL / NULL 'z' TRUE 2 / NULL 'z' TRUE 7 / 1 'y' TRUE NULL / 1 'y' TRUE 2 / 1 'y' TRUE 7 / 2 'x' TRUE NULL / 2 'x' TRUE 2 / 2 'x' TRUE 7")
		}
		for _, right := range []api.LNode{scan(0, kindsA...), input(0, kindsA...)} {
			comesTo(t, []api.LNode{left, right, union()}, d, "NULL 'z' / NULL 'z' / 1 'y' / 1 'y' / 2 'x' / 2 'x'")
		}
	}
	comesTo(t, []api.LNode{scan(0, kindsA...), input(1, kindsB...), leftJoin(lit(yes))}, data{Tables: [][]api.Row{a}, Inputs: [][]api.Row{nil, nil}}, "NULL 'z' NULL NULL / 1 'y' NULL NULL / 2 'x' NULL NULL")
	comesTo(t, []api.LNode{scan(0, kindsA...), input(1, kindsB...), leftJoin(lit(yes))}, data{Tables: [][]api.Row{nil}, Inputs: [][]api.Row{nil, b}}, "")
	comesTo(t, []api.LNode{input(0, ki), input(1, kn), union()}, reads(list("2 / NULL"), list("NULL / NULL")), "NULL / NULL / NULL / 2")
	comesTo(t, []api.LNode{input(0, ki), input(1, ki), union(), input(0, ki), join(eq(0, 1))}, reads(list("2 / 1"), list("2 / 3")), "1 1 / 2 2 / 2 2") // two that read the same rows
}

// P20.1: nodes above one another, each of what the one below comes to.
func TestDeepFrags(t *testing.T) {
	d := data{Tables: [][]api.Row{list("1 10 / 2 20 / 3 30 / 2 21"), list("3 / 2 / 5")}, Inputs: [][]api.Row{nil, list("2 S40 2 / 3 S30 1 / 2 S1 1 / 4 NULL 0")}}
	comesTo(t, []api.LNode{
		scan(0, ki, ki), scan(1, ki), join(eq(0, 2)), project(col(1), col(2)), group([]int{1}, agg(api.AggSum, col(0))), filter(on(api.NGt, col(1), num(30))),
	}, d, "2 41")
	comesTo(t, []api.LNode{
		input(1, ki, ks, ki), final(1, api.AggSum, api.AggCount), scan(0, ki, ki), leftJoin(eq(0, 3)), project(col(0), col(1), col(2), col(4)), sortBy(4, down(0), up(3)),
	}, d, "4 NULL 0 NULL / 3 30 1 30 / 2 41 3 20 / 2 41 3 21")
	comesTo(t, []api.LNode{scan(1, ki), scan(1, ki), union(), distinct(), partial(nil, agg(api.AggSum, col(0)))}, d, "S10")
	comesTo(t, []api.LNode{input(1, ki, ks, ki), final(1, api.AggSum, api.AggMax), filter(on(api.NIsNull, col(1))), partial([]int{2}, agg(api.AggSum, col(1)), agg(api.AggAll))}, d, "0 NULL 1")
	long := append([]api.LNode{scan(1, ki)}, slices.Repeat([]api.LNode{project(on(api.NAdd, col(0), num(1)))}, api.MaxSteps-1)...)
	comesTo(t, long, d, "61 / 62 / 64")
}

// P20.1: nodes that may not be, ahead of what does not fit, of what faults, of what is too much.
func TestNodesThatMayNotBe(t *testing.T) {
	for _, l := range noNodes() {
		for _, d := range []data{{}, scans(counted(3)), scans(list("'a' / 1 2")), scans(counted(201)), reads(counted(3)), {Tables: [][]api.Row{counted(9000)}, Inputs: [][]api.Row{counted(9000)}}} {
			isRun(t, l, d, nil, api.ErrFrag)
		}
	}
	wrong := filter(num(1)) // and the first node faults, is too much, is of a table that is not there
	fails(t, []api.LNode{scan(0, ki), filter(badTruth(0, 1)), wrong}, scans(counted(3)), api.ErrFrag)
	fails(t, []api.LNode{scan(0, ki), wrong}, scans(counted(201)), api.ErrFrag)
	fails(t, []api.LNode{scan(1, ki), wrong}, scans(counted(3)), api.ErrFrag)
	fails(t, []api.LNode{scan(0, ki), distinct(), scan(0, kt)}, scans(counted(3)), api.ErrFrag)
}
