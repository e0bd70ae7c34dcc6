package exec_test

import (
	"math"
	"slices"
	"testing"

	"bowsprit/api"
	"bowsprit/exec"
)

// standing are nodes that may stand over rows, with the call that takes them.
func standing() []struct {
	call call
	node api.LNode
	rows []api.Row
	want string
} {
	return []struct {
		call call
		node api.LNode
		rows []api.Row
		want string
	}{
		{exec.Partial, partial([]int{0}, eachAgg(col(1))...), chapters(), "1 2 2 S12 5 7 / 2 1 0 NULL NULL NULL"},
		{exec.Partial, partial([]int{0, 1}), chapters(), "1 5 / 1 7 / 2 NULL"},
		{exec.Partial, partial(nil, agg(api.AggAll)), chapters(), "3"},
		{exec.Final, final(1, eachTag...), list("'x' 2 1 S12 5 'b' / NULL 1 1 S1 1 'q' / 'x' 1 1 S3 6 'c'"), "NULL 1 1 1 1 'q' / 'x' 3 2 15 5 'c'"},
		{exec.Final, final(2), chapters(), "1 5 / 1 7 / 2 NULL"},
		{exec.Final, final(0, api.AggAll), list("1 / 2"), "3"},
	}
}

// P20.2: a node of another Op, be it one that may stand over these rows, or that is like the one that is asked for but in that.
func TestOfAnotherOp(t *testing.T) {
	for _, x := range standing() {
		is(t, x.call, x.node, x.rows, x.want)
		for _, op := range append(nowhere(api.LFinal+1), firsts(api.LFinal+1)...) {
			n := x.node
			if n.Op = op; op != x.node.Op {
				isNone(t, x.call, n, x.rows, api.ErrArg)
			}
		}
		for _, y := range standing() {
			if y.node.Op != x.node.Op {
				isNone(t, x.call, y.node, y.rows, api.ErrArg)
				isNone(t, x.call, y.node, x.rows, api.ErrArg)
			}
		}
	}
	for _, c := range []call{exec.Partial, exec.Final} {
		for _, n := range []api.LNode{{}, distinct(), filter(lit(yes)), project(col(0)), sortBy(1), group([]int{0}), scan(0, ki), input(0, ki), union()} {
			isNone(t, c, n, counted(3), api.ErrArg)
			isNone(t, c, n, nil, api.ErrArg)
		}
	}
}

// P20.2: no row, though the node alone may be.
func TestOfNoRow(t *testing.T) {
	for _, x := range standing() {
		isNone(t, x.call, x.node, nil, api.ErrArg)
		isNone(t, x.call, x.node, []api.Row{}, api.ErrArg)
		isNone(t, x.call, x.node, make([]api.Row, 0, 5), api.ErrArg)
	}
}

// P20.2: rows of different widths, of none, and of too many values.
func TestOfWidths(t *testing.T) {
	for _, x := range standing() {
		for place, r := range x.rows {
			for _, wrong := range []api.Row{nil, {}, r[:len(r)-1], append(slices.Clone(r), null), append(slices.Clone(r), number(1)), slices.Repeat(api.Row{null}, 40)} {
				isNone(t, x.call, x.node, with(x.rows, place, wrong), api.ErrArg)
			}
		}
		isNone(t, x.call, x.node, append(slices.Clone(x.rows), nil), api.ErrArg)
		isNone(t, x.call, x.node, make([]api.Row, 3), api.ErrArg)
	}
	for width := 1; width <= 3*api.MaxWidth; width++ {
		rows := []api.Row{slices.Repeat(api.Row{number(2)}, width), slices.Repeat(api.Row{number(1)}, width)}
		if width <= api.MaxWidth {
			is(t, exec.Partial, partial([]int{width - 1}, agg(api.AggSum, col(width-1))), rows, "1 S1 / 2 S2")
			continue
		}
		isNone(t, exec.Partial, partial([]int{0}, agg(api.AggAll)), rows, api.ErrArg)
	}
}

// P20.2: a place's kind is that of its first value that is not null; each other one has to be of it, or null.
func TestOfKinds(t *testing.T) {
	part, end := partial([]int{1}, agg(api.AggMin, col(0)), agg(api.AggCount, col(0))), final(1, api.AggMax)
	for kind := kb; kind <= kt; kind++ {
		for other := kb; other <= kt; other++ {
			one, two := valueOf[kind], valueOf[other]
			for ahead := range 4 { // of so many rows that have nulls there
				rows := slices.Repeat([]api.Row{{null, number(1)}}, ahead)
				turned := slices.Repeat([]api.Row{{number(1), null}}, ahead)
				for _, r := range []api.Row{{one, number(1)}, {null, number(2)}, {two, number(1)}} {
					rows = append(rows, r)
					turned = append(turned, api.Row{r[1], r[0]})
				}
				if one != two {
					isNone(t, exec.Partial, part, rows, api.ErrArg)
					isNone(t, exec.Final, end, turned, api.ErrArg)
					continue
				}
				for _, x := range []struct {
					call call
					node api.LNode
					rows []api.Row
					want []api.Row
				}{
					{exec.Partial, part, rows, []api.Row{{number(1), one, number(2)}, {number(2), null, number(0)}}},
					{exec.Final, end, turned, []api.Row{{number(1), one}, {number(2), null}}},
				} {
					if got, e := x.call(x.node, x.rows); e != api.OK || !same(got, x.want) {
						t.Errorf("%v of %v: %v, %v", x.node, x.rows, got, e)
					}
				}
			}
		}
	}
	isNone(t, exec.Partial, partial([]int{0}), list("NULL 1 / 5 NULL / NULL NULL / 'a' 1"), api.ErrArg)
	isNone(t, exec.Partial, partial([]int{0}), list("NULL 1 / 5 NULL / NULL TRUE"), api.ErrArg) // a place that nothing asks for
	is(t, exec.Partial, partial(nil, agg(api.AggSum, col(0))), list("NULL / NULL / 5 / NULL"), "S5")
	isNone(t, exec.Partial, partial(nil, agg(api.AggSum, col(0))), list("NULL / NULL / 'a' / NULL"), api.ErrArg)
	is(t, exec.Final, final(0, api.AggSum), list("NULL / NULL / S5 / NULL"), "5")
	isNone(t, exec.Final, final(0, api.AggSum), list("NULL / NULL / 5 / NULL"), api.ErrArg)
}

// P20.2: a place of nulls alone is of VNull, over which not all may stand.
func TestOfNullsAlone(t *testing.T) {
	rows := list("NULL 1 / NULL 2 / NULL 1")
	is(t, exec.Partial, partial([]int{1}, eachAgg(col(0))...), rows, "1 2 0 NULL NULL NULL / 2 1 0 NULL NULL NULL")
	is(t, exec.Partial, partial([]int{0}, eachAgg(on(api.NAdd, col(0), col(1)))...), rows, "NULL 3 0 NULL NULL NULL")
	is(t, exec.Partial, partial(nil, agg(api.AggCount, on(api.NAnd, col(0), lit(yes))), agg(api.AggMin, on(api.NEq, col(0), lit(text("a"))))), rows, "0 NULL")
	is(t, exec.Partial, partial([]int{0}), list("NULL"), "NULL")
	is(t, exec.Final, final(1, api.AggMin), list("NULL NULL / NULL NULL"), "NULL NULL")
	is(t, exec.Final, final(1, api.AggMax, api.AggAll), list("NULL NULL 3 / NULL NULL NULL"), "NULL NULL 3")
	for _, tag := range []int{api.AggAll, api.AggCount, api.AggSum} {
		isNone(t, exec.Final, final(0, tag), list("NULL"), api.ErrArg)
		isNone(t, exec.Final, final(1, tag), list("1 NULL / 2 NULL"), api.ErrArg)
	}
}

// P20.2: values that may not be, in each place.
func TestOfNoValues(t *testing.T) {
	for _, x := range standing() {
		for place, r := range x.rows {
			for k := range r {
				for _, v := range noValues() {
					isNone(t, x.call, x.node, with(x.rows, place, with(r, k, v)), api.ErrArg)
				}
			}
		}
	}
	for _, v := range noValues() {
		isNone(t, exec.Partial, partial([]int{0}), []api.Row{{v}}, api.ErrArg)
		isNone(t, exec.Partial, partial([]int{0}), []api.Row{{v}, {v}}, api.ErrArg)
		isNone(t, exec.Final, final(1), []api.Row{{v}}, api.ErrArg)
		isNone(t, exec.Final, final(0, api.AggMin), []api.Row{{v}}, api.ErrArg)
	}
}

// P20.2: sums under way, where they may stand and where not.
func TestOfSums(t *testing.T) {
	isNone(t, exec.Partial, partial([]int{0}), list("S1"), api.ErrArg)
	isNone(t, exec.Partial, partial([]int{0}), list("1 S1"), api.ErrArg) // a place that nothing asks for
	isNone(t, exec.Partial, partial([]int{0}), list("1 NULL / 2 S1"), api.ErrArg)
	isNone(t, exec.Partial, partial(nil, agg(api.AggAll)), list("NULL / S1"), api.ErrArg)
	for _, a := range eachAgg(col(0)) {
		isNone(t, exec.Partial, partial(nil, a), list("S1 / S2"), api.ErrArg)
	}
	isNone(t, exec.Final, final(1), list("S1"), api.ErrArg)
	isNone(t, exec.Final, final(1, api.AggSum), list("S1 S1"), api.ErrArg)
	isNone(t, exec.Final, final(2, api.AggSum), list("1 S1 S1"), api.ErrArg)
	is(t, exec.Final, final(2, api.AggSum), list("1 1 S1"), "1 1 1")
	for _, tag := range eachTag {
		for kind, v := range valueOf {
			fits := map[int][]int{api.AggAll: {ki}, api.AggCount: {ki}, api.AggSum: {ks}, api.AggMin: {kn, kb, ki, kt}, api.AggMax: {kn, kb, ki, kt}}[tag]
			if v.Kind == ks {
				v = sum(5)
			}
			rows := []api.Row{{v, number(1)}}
			n := final(0, tag, api.AggMin)
			if !slices.Contains(fits, kind) {
				isNone(t, exec.Final, n, rows, api.ErrArg)
				continue
			}
			want := []api.Row{{v, number(1)}}
			if kind == ks {
				want[0][0] = number(5)
			}
			if got, e := exec.Final(n, rows); e != api.OK || !same(got, want) {
				t.Errorf("%v of %v: %v, %v", n, rows, got, e)
			}
		}
	}
}

// P20.2: nodes that may not stand over rows, of their own account, and because of the rows' columns.
func TestMayNotStand(t *testing.T) {
	for _, x := range standing() {
		for _, change := range []func(n *api.LNode){
			func(n *api.LNode) { n.Table = 1 },
			func(n *api.LNode) { n.Kinds = []int{ki} },
			func(n *api.LNode) { n.Left = true },
			func(n *api.LNode) { n.Cond = lit(yes) },
			func(n *api.LNode) { n.Items = []api.Expr{col(0)} },
			func(n *api.LNode) { n.Order = []api.Ord{up(0)} },
			func(n *api.LNode) { n.Limit = -1 },
			func(n *api.LNode) { n.Keys, n.Aggs = nil, nil },
			func(n *api.LNode) { n.Keys = append(slices.Clone(n.Keys), len(x.rows[0])) },
			func(n *api.LNode) { n.Keys = append(slices.Clone(n.Keys), -1) },
			func(n *api.LNode) { n.Keys = append(slices.Clone(n.Keys), math.MaxInt) },
			func(n *api.LNode) { n.Keys = slices.Repeat([]int{0}, api.MaxNames+1) },
			func(n *api.LNode) { n.Aggs = append(slices.Clone(n.Aggs), agg(0)) },
			func(n *api.LNode) { n.Aggs = append(slices.Clone(n.Aggs), agg(api.AggMax+1, col(0))) },
			func(n *api.LNode) { n.Aggs = append(slices.Clone(n.Aggs), agg(api.AggAll, col(0))) },
			func(n *api.LNode) { n.Aggs = append(slices.Clone(n.Aggs), agg(api.AggMin, col(len(x.rows[0])))) },
			func(n *api.LNode) { n.Aggs = append(slices.Clone(n.Aggs), agg(api.AggSum, lit(text("a")))) },
			func(n *api.LNode) { n.Aggs = append(slices.Clone(n.Aggs), agg(api.AggSum, num(1), api.Expr{})) },
			func(n *api.LNode) { n.Aggs = slices.Repeat([]api.Agg{agg(api.AggAll)}, api.MaxAggs+1) },
		} {
			n := x.node
			change(&n)
			isNone(t, x.call, n, x.rows, api.ErrArg)
		}
	}
	is(t, exec.Partial, partial([]int{0, 0, 1}, slices.Repeat([]api.Agg{agg(api.AggAll)}, api.MaxAggs)...), list("1 2"), "1 1 2 1 1 1 1 1 1 1 1 1 1 1 1")
	is(t, exec.Final, final(3, slices.Repeat([]int{api.AggMin}, api.MaxAggs)...), list("1 2 3 4 5 6 7 8 9 0 1 2 3 4 5"), "1 2 3 4 5 6 7 8 9 0 1 2 3 4 5")
	keyed := final(2, api.AggMin)
	for _, keys := range [][]int{{1, 0}, {0, 0}, {0}, {0, 2}, {0, 1, 2}, {0, 1, 2, 3}, {-1, 0}, nil} {
		n := keyed
		n.Keys = keys
		isNone(t, exec.Final, n, list("1 2 3"), api.ErrArg)
	}
	for _, arg := range []api.Expr{col(0), num(1), lit(null)} {
		n := keyed
		n.Aggs = []api.Agg{agg(api.AggMin, arg)}
		isNone(t, exec.Final, n, list("1 2 3"), api.ErrArg)
	}
	is(t, exec.Final, keyed, list("1 2 3"), "1 2 3")
	isNone(t, exec.Final, keyed, list("1 2 3 4"), api.ErrArg)
	isNone(t, exec.Final, keyed, list("1 2"), api.ErrArg)
}

// P20.2: what may not stand, and rows that do not fit, go ahead of what faults.
func TestArgAheadOfFault(t *testing.T) {
	n := partial(nil, agg(api.AggSum, bad(0, 1)))
	isNone(t, exec.Partial, n, list("1 / 2"), api.ErrFault)
	isNone(t, exec.Partial, n, list("1 / 'a'"), api.ErrArg)
	isNone(t, exec.Partial, n, list("1 / 2 3"), api.ErrArg)
	isNone(t, exec.Partial, n, append(list("1"), api.Row{{N: 1}}), api.ErrArg)
	isNone(t, exec.Partial, n, counted(api.MaxList), api.ErrFault)
	isNone(t, exec.Partial, n, counted(api.MaxList+1), api.ErrArg)
	n.Keys = []int{1}
	isNone(t, exec.Partial, n, list("1 / 2"), api.ErrArg)
	end := final(0, api.AggAll)
	isNone(t, exec.Final, end, list("9223372036854775807 / 1"), api.ErrFault)
	isNone(t, exec.Final, end, list("9223372036854775807 / 1 / TRUE"), api.ErrArg)
	isNone(t, exec.Final, end, list("9223372036854775807 / 1 / 1 1"), api.ErrArg)
	end.Limit = 1
	isNone(t, exec.Final, end, list("9223372036854775807 / 1"), api.ErrArg)
}
