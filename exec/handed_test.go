package exec_test

import (
	"slices"
	"testing"

	"bowsprit/api"
	"bowsprit/exec"
)

// P20.1: a table, an input that is there, and is not: of which as many are handed in as there are places up to the one that is asked for.
func TestThereOrNot(t *testing.T) {
	for place := range api.MaxTables {
		for handed := range 6 {
			want := api.ErrArg
			if place < handed {
				want = api.OK
			}
			tables := slices.Repeat([][]api.Row{nil}, handed)
			isRun(t, steps(scan(place, ki)), data{Tables: tables}, nil, want)
			isRun(t, steps(scan(place, ki)), data{Tables: tables, Inputs: make([][]api.Row, 40)}, nil, want)
			isRun(t, steps(scan(0, ki), scan(place, ki), union()), data{Tables: tables}, nil, want)
			isRun(t, steps(scan(place, ki), scan(0, ki), union()), data{Tables: tables}, nil, want)
		}
	}
	for _, place := range []int{0, 1, 2, 13, api.MaxFrags - 1} {
		for handed := range api.MaxFrags + 2 {
			want := api.ErrArg
			if place < handed {
				want = api.OK
			}
			inputs := slices.Repeat([][]api.Row{nil}, handed)
			isRun(t, steps(input(place, ks)), data{Inputs: inputs}, nil, want)
			isRun(t, steps(input(place, ks)), data{Tables: make([][]api.Row, 40), Inputs: inputs}, nil, want)
			isRun(t, steps(input(place, ki), scan(0, ki), join(lit(yes))), data{Tables: [][]api.Row{counted(2)}, Inputs: inputs}, nil, want)
		}
	}
}

// P20.1: what no node asks for is not looked at.
func TestNotAskedFor(t *testing.T) {
	whatever := [][]api.Row{counted(9000), {{}}, {{api.Value{Kind: 9}}}, list("1 2 3 / 'a'")}
	for _, x := range whatever {
		d := data{Tables: [][]api.Row{x, counted(2), x}, Inputs: [][]api.Row{x, x, list("7 8"), x}}
		comesTo(t, []api.LNode{scan(1, ki)}, d, "1 / 2")
		comesTo(t, []api.LNode{input(2, ki, ki)}, d, "7 8")
		comesTo(t, []api.LNode{scan(1, ki), input(2, ki, ki), join(lit(yes))}, d, "1 7 8 / 2 7 8")
		fails(t, []api.LNode{scan(2, ki)}, d, api.ErrArg)
		fails(t, []api.LNode{input(1, ki)}, d, api.ErrArg)
		fails(t, []api.LNode{scan(1, ki), input(3, ki), join(lit(yes))}, d, api.ErrArg)
	}
}

// fitting holds whether rows fit kinds, of a scan (if it may have such kinds) and of an input.
func fitting(t *testing.T, rows []api.Row, fit bool, kinds ...int) {
	t.Helper()
	if fitsByRule(rows, kinds) != fit {
		t.Fatal(rows, kinds)
	}
	want, e := sortedByRule(rows), api.OK
	if !fit {
		want, e = nil, api.ErrArg
	} else if len(rows) > api.MaxRows {
		want, e = nil, api.ErrOver
	}
	isRun(t, steps(input(1, kinds...)), reads(nil, rows), want, e)
	if len(kinds) <= api.MaxColumns && !slices.Contains(kinds, kn) && !slices.Contains(kinds, ks) {
		isRun(t, steps(scan(1, kinds...)), scans(nil, rows), want, e)
	}
}

// P20.1: a value of each kind in a place of each kind; null fits each.
func TestFitOfValues(t *testing.T) {
	for kind := kn; kind <= ks; kind++ {
		for own, v := range valueOf {
			fit := own == kind || own == kn
			fitting(t, []api.Row{{v}}, fit, kind)
			fitting(t, []api.Row{{valueOf[kind]}, {null}, {v}, {null}}, fit, kind)
			fitting(t, []api.Row{{number(1), valueOf[kind], text("a")}, {null, v, null}}, fit, ki, kind, kt)
			fitting(t, []api.Row{{number(1), null, v}}, fit, ki, ki, kind)
		}
		for _, v := range noValues() {
			fitting(t, []api.Row{{v}}, false, kind)
			fitting(t, []api.Row{{valueOf[kind], yes}, {v, yes}, {valueOf[kind], yes}}, false, kind, kb)
		}
	}
	long := text("0123456789012345678901234567890123456789")
	fitting(t, []api.Row{{long, number(least), {Kind: ks, N: least}}, {text("'"), number(most), {Kind: ks, N: -1, U: 1<<64 - 1}}}, true, kt, ki, ks)
}

// P20.1: a row of too few values, of too many, at each place of a list.
func TestFitOfWidths(t *testing.T) {
	for width := 1; width <= api.MaxWidth; width++ {
		kinds := slices.Repeat([]int{ki}, width)
		right := slices.Repeat(api.Row{number(5)}, width)
		fitting(t, []api.Row{right, right}, true, kinds...)
		for _, other := range []int{0, 1, width - 1, width + 1, 2 * width, api.MaxWidth + 1, 1000} {
			if other == width {
				continue
			}
			for _, v := range []api.Value{number(5), null} {
				wrong := slices.Repeat(api.Row{v}, other)
				fitting(t, []api.Row{wrong}, false, kinds...)
				for place := range 4 {
					fitting(t, with([]api.Row{right, right, right, right}, place, wrong), false, kinds...)
				}
			}
		}
	}
	fitting(t, []api.Row{nil}, false, kn)
	fitting(t, nil, true, kn)
}

// P20.1: lists of MaxList rows just: these fit, and are too much; of one more: they do not fit. A row that does not fit is found behind all others.
func TestFitOfLists(t *testing.T) {
	fitting(t, counted(api.MaxList), true, ki)
	fitting(t, counted(api.MaxList+1), false, ki)
	fitting(t, counted(2*api.MaxList), false, ki)
	fitting(t, make([]api.Row, api.MaxList), false, ki)
	for _, place := range []int{0, api.MaxRows, api.MaxRows + 1, api.MaxList / 2, api.MaxList - 1} {
		fitting(t, with(counted(api.MaxList), place, api.Row{yes}), false, ki)
		fitting(t, with(counted(api.MaxList), place, api.Row{}), false, ki)
		fitting(t, with(counted(api.MaxList), place, api.Row{null}), true, ki)
	}
}

// P20.1: what does not fit goes ahead of what faults and of what is too much, wherever it is asked for.
func TestFitAheadOfAll(t *testing.T) {
	wrongs := [][]api.Row{counted(api.MaxList + 1), list("'a'"), list("1 2"), {{}}, {{noValues()[0]}}}
	for _, wrong := range wrongs {
		for _, first := range [][]api.LNode{{scan(0, ki)}, {scan(0, ki), filter(badTruth(0, 1))}, {scan(0, ki), scan(0, ki), join(lit(yes))}} {
			for _, rows := range [][]api.Row{counted(3), counted(15), counted(201)} {
				d := data{Tables: [][]api.Row{rows, wrong}, Inputs: [][]api.Row{rows, wrong}}
				width := 1 + len(first)/3
				for _, leaf := range []api.LNode{scan(1, ki), input(1, ki)} {
					l := slices.Concat(first, []api.LNode{project(slices.Repeat([]api.Expr{col(0)}, width)...), leaf, join(lit(yes))})
					fails(t, l, d, api.ErrArg)
					fails(t, append(l, filter(badTruth(0, 1)), sortBy(0)), d, api.ErrArg)
					fails(t, slices.Concat([]api.LNode{leaf}, first, []api.LNode{join(lit(yes))}), d, api.ErrArg)
				}
			}
		}
	}
	if _, e := exec.Run(api.Frag{}, nil, nil); e != api.ErrFrag {
		t.Error(e)
	}
}
