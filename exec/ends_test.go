package exec_test

import (
	"slices"
	"testing"

	"bowsprit/api"
)

// ending is steps that come to rows of one number, or have an end; what they scan and read stands at ends.
type ending struct {
	nodes []api.LNode
	end   api.Errno
}

// endsOf are what ending's steps are handed: few rows, just as many as there may be, one more, partial aggregates, rows 15 of which are too much joined with one another.
func endsOf() data {
	l := [][]api.Row{counted(3), counted(api.MaxRows), counted(api.MaxRows + 1), counted(15)}
	sums := []api.Row{{under(power(63, 0)), number(1)}, {sum(1), number(most)}, {sum(1), number(1)}}
	return data{Tables: l, Inputs: append(l, sums)}
}

// endings are steps of each end, of each Op that may have it.
func endings() []ending {
	few, just, more, some := scan(0, ki), input(1, ki), input(2, ki), scan(3, ki)
	halves, first := input(4, ks, ki), project(col(0))
	return []ending{
		{[]api.LNode{few}, api.OK},
		{[]api.LNode{just}, api.OK},
		{[]api.LNode{few, filter(badTruth(0, 4))}, api.OK},
		{[]api.LNode{few, few, leftJoin(eq(0, 1)), first}, api.OK},
		{[]api.LNode{halves, final(0, api.AggSum, api.AggMin), first}, api.ErrFault},
		{[]api.LNode{halves, final(0, api.AggSum, api.AggCount), first}, api.ErrFault},
		{[]api.LNode{few, filter(badTruth(0, 3))}, api.ErrFault},
		{[]api.LNode{few, project(bad(0, 2))}, api.ErrFault},
		{[]api.LNode{few, few, join(on(api.NAnd, lit(no), badTruth(1, 3))), first}, api.ErrFault},
		{[]api.LNode{few, few, leftJoin(badTruth(0, 1)), first}, api.ErrFault},
		{[]api.LNode{few, group([]int{0}, agg(api.AggCount, bad(0, 2))), first}, api.ErrFault},
		{[]api.LNode{few, group(nil, agg(api.AggSum, on(api.NMul, col(0), num(most/4))))}, api.ErrFault},
		{[]api.LNode{more}, api.ErrOver},
		{[]api.LNode{scan(2, ki)}, api.ErrOver},
		{[]api.LNode{just, few, union()}, api.ErrOver},
		{[]api.LNode{some, some, join(lit(yes)), first}, api.ErrOver},
		{[]api.LNode{just, few, leftJoin(on(api.NLe, col(0), num(1))), first}, api.ErrOver},
		{[]api.LNode{some, some, join(badTruth(0, 15)), first}, api.ErrFault}, // it is too much as well
		{[]api.LNode{some, some, leftJoin(badTruth(1, 15)), first}, api.ErrFault},
		{[]api.LNode{just, few, leftJoin(badTruth(0, api.MaxRows)), first}, api.ErrFault},
	}
}

// P20.1: each end by itself; and of two parts the first one's, whatever the second one's is.
func TestFirstEnd(t *testing.T) {
	d := endsOf()
	fewer := filter(on(api.NLe, col(0), num(3))) // so that it is never the whole that is too much
	for _, x := range endings() {
		got, e := runByRule(steps(x.nodes...), d)
		if e != x.end {
			t.Fatal(x, e)
		}
		isRun(t, steps(x.nodes...), d, got, x.end)
		for _, y := range endings() {
			want := x.end
			if want == api.OK {
				want = y.end
			}
			l := slices.Concat(x.nodes, []api.LNode{fewer}, y.nodes, []api.LNode{fewer, union()})
			rows, e := runByRule(steps(l...), d)
			if e != want {
				t.Fatal(l, e, want)
			}
			isRun(t, steps(l...), d, rows, want)
		}
	}
}

// P20.1: what stands above what has an end does not change it: what faults, is too much, or has fewer rows.
func TestEndOnTheWay(t *testing.T) {
	d := endsOf()
	above := []api.LNode{
		filter(lit(no)), filter(badTruth(0, 1)), project(bad(0, 1)), distinct(), sortBy(1), sortBy(0), group(nil, agg(api.AggAll)), group([]int{0}), partial(nil, agg(api.AggSum, bad(0, 1))), partial([]int{0}),
	}
	for _, x := range endings() {
		if x.end == api.OK {
			continue
		}
		for _, n := range above {
			fails(t, append(slices.Clone(x.nodes), n), d, x.end)
		}
		for _, y := range endings() {
			fails(t, slices.Concat(x.nodes, y.nodes, []api.LNode{join(lit(no))}), d, x.end)
		}
	}
}

// P20.1: MaxRows rows just, and one more, of a scan, an input, a join, a union, as the root and below it; all else has no more rows than its parts.
func TestTooMuch(t *testing.T) {
	d := data{Tables: [][]api.Row{counted(200), counted(201)}, Inputs: [][]api.Row{counted(200), counted(201), counted(100), counted(101), counted(20), counted(10), counted(3), counted(67), counted(1), nil, counted(8000)}}
	over := func(want int, l ...api.LNode) {
		t.Helper()
		count(t, l, d, want)
		for _, n := range []api.LNode{distinct(), sortBy(-1), project(col(0)), filter(lit(yes))} {
			if n.Op != api.LDistinct || want < 0 {
				count(t, append(slices.Clone(l), n), d, want)
			}
		}
		if want < 0 {
			count(t, append(slices.Clone(l), sortBy(1)), d, want)
			count(t, append(slices.Clone(l), filter(lit(no))), d, want)
			count(t, append(slices.Clone(l), group(nil, agg(api.AggAll))), d, want)
			count(t, append(slices.Clone(l), partial(nil, agg(api.AggAll))), d, want)
		}
	}
	in := func(k int) api.LNode { return input(k, ki) }
	over(200, scan(0, ki))
	over(-1, scan(1, ki))
	over(200, in(0))
	over(-1, in(1))
	over(-1, in(10))
	over(200, in(2), in(2), union())
	over(-1, in(2), in(3), union())
	over(-1, in(3), in(2), union())
	over(200, in(0), in(9), union())
	over(-1, in(0), in(8), union())
	over(-1, in(0), in(0), union())
	over(200, in(4), in(5), join(lit(yes)))
	over(-1, in(6), in(7), join(lit(yes)))
	over(-1, in(7), in(6), leftJoin(lit(yes)))
	over(200, in(0), in(8), join(lit(yes)))
	over(200, in(0), in(0), join(eq(0, 1)))
	over(-1, in(0), in(0), join(on(api.NOr, eq(0, 1), on(api.NAnd, on(api.NEq, col(0), num(7)), on(api.NEq, col(1), num(200))))))
	over(200, in(0), in(9), leftJoin(lit(yes)))
	over(200, in(0), in(2), leftJoin(eq(0, 1)))
	over(-1, in(0), in(2), leftJoin(on(api.NOr, eq(0, 1), on(api.NEq, col(0), on(api.NSub, col(1), num(50))))))
	over(-1, in(0), in(0), join(lit(yes)))
	count(t, []api.LNode{in(0), in(0), join(lit(no))}, d, 0) // of as many pairs as there can be
	count(t, []api.LNode{in(0), in(0), leftJoin(lit(null))}, d, 200)
	count(t, []api.LNode{in(0), group([]int{0}, agg(api.AggAll))}, d, 200)
	count(t, []api.LNode{in(0), partial([]int{0}, agg(api.AggAll))}, d, 200)
	count(t, []api.LNode{in(0), final(1)}, d, 200)
	count(t, []api.LNode{in(1), final(0, api.AggMax)}, d, -1)
	count(t, []api.LNode{in(0), sortBy(api.MaxNumber, down(0))}, d, 200)
	count(t, []api.LNode{in(1), sortBy(200)}, d, -1)
}

// P20.1: a condition, an item, an Arg is asked of all rows: it faults, if it does of whichever one, though another one says enough.
func TestAskedOfAll(t *testing.T) {
	for bads := int64(1); bads <= 6; bads++ {
		want := api.ErrFault
		if bads == 6 {
			want = api.OK
		}
		d := data{Tables: [][]api.Row{counted(5), counted(1)}, Inputs: [][]api.Row{counted(5)}}
		truth, number := badTruth(0, bads), bad(0, bads)
		for _, l := range [][]api.LNode{
			{scan(0, ki), filter(truth)}, {scan(0, ki), filter(on(api.NAnd, lit(no), truth))}, {input(0, ki), filter(on(api.NOr, lit(yes), truth))},
			{scan(0, ki), scan(1, ki), join(truth)}, {scan(1, ki), scan(0, ki), leftJoin(badTruth(1, bads))}, {scan(1, ki), scan(0, ki), join(on(api.NAnd, lit(no), badTruth(1, bads)))},
			{input(0, ki), project(col(0), number)}, {input(0, ki), project(number, col(0))},
			{scan(0, ki), group(nil, agg(api.AggAll), agg(api.AggCount, number))}, {scan(0, ki), group([]int{0}, agg(api.AggMin, number))}, {scan(0, ki), group(nil, agg(api.AggSum, number))}, {scan(0, ki), group(nil, agg(api.AggMax, number))},
			{scan(0, ki), partial(nil, agg(api.AggAll), agg(api.AggCount, number))}, {scan(0, ki), partial([]int{0}, agg(api.AggMin, number))}, {scan(0, ki), partial(nil, agg(api.AggSum, number))}, {scan(0, ki), partial(nil, agg(api.AggMax, number))},
		} {
			rows, e := runByRule(steps(l...), d)
			if e != want {
				t.Fatal(l, e)
			}
			isRun(t, steps(l...), d, rows, want)
		}
	}
	none := data{Tables: [][]api.Row{nil, counted(5)}} // of no rows nothing is asked
	comesTo(t, []api.LNode{scan(0, ki), filter(on(api.NEq, on(api.NDiv, num(1), num(0)), num(1)))}, none, "")
	comesTo(t, []api.LNode{scan(0, ki), scan(1, ki), join(badTruth(1, 3))}, none, "")
	comesTo(t, []api.LNode{scan(1, ki), scan(0, ki), leftJoin(badTruth(0, 3))}, none, "1 NULL / 2 NULL / 3 NULL / 4 NULL / 5 NULL")
	comesTo(t, []api.LNode{scan(0, ki), group(nil, agg(api.AggSum, on(api.NDiv, num(1), num(0))))}, none, "NULL")
}
