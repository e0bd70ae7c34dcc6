package exec_test

import (
	"math"
	"slices"
	"testing"

	"bowsprit/api"
	"bowsprit/exec"
)

// hasAll are the kinds of rows that have all kinds, and allRows such rows, not sorted, some twice.
var hasAll = []int{ki, kt, kb, ks, kn}

func allRows() []api.Row {
	return list("3 'b' TRUE S7 NULL / 1 'a' NULL S-1 NULL / 3 'b' TRUE S7 NULL / NULL NULL NULL NULL NULL / 2 '' FALSE S18446744073709551617 NULL / 3 'a' FALSE NULL NULL / NULL 'b' TRUE S0 NULL / 1 'a' NULL S-1 NULL")
}

// isGone holds what Goes says against what is reckoned of it.
func isGone(t *testing.T, f api.Frag, rows []api.Row, nodes int) {
	t.Helper()
	want, e := goesByRule(f, rows, nodes)
	if e != api.OK {
		goNowhere(t, f, rows, nodes, e)
		return
	}
	goTo(t, f, rows, nodes, want...)
}

// counts are counts of nodes that may be, and noCounts such as may not.
func counts() []int {
	return []int{1, 2, 3, 4, 5, 6, 7, api.MaxSites}
}

func noCounts() []int {
	return []int{0, -1, api.MaxSites + 1, api.MaxSites + 2, math.MaxInt, math.MinInt, 1 << 32, 1<<32 + 1, 64}
}

// P20.3: of WayGather and WayRoot all rows go to one node, of WayCast all to each, in their order.
func TestGatherAndCast(t *testing.T) {
	for _, rows := range [][]api.Row{allRows(), allRows()[:1], allRows()[4:], nil, {}} {
		for _, nodes := range counts() {
			goTo(t, goes(hasAll, api.WayGather), rows, nodes, rows)
			goTo(t, goes(hasAll, api.WayRoot), rows, nodes, rows)
			goTo(t, goes(hasAll, api.WayCast), rows, nodes, slices.Repeat([][]api.Row{rows}, nodes)...)
		}
	}
	goTo(t, goes([]int{ki}, api.WayGather), list("3 / 1 / 2 / 1"), 2, list("3 / 1 / 2 / 1"))
	goTo(t, goes([]int{ki}, api.WayCast), list("3 / 1 / 2"), 2, list("3 / 1 / 2"), list("3 / 1 / 2"))
}

// P20.3: of WayShuffle each row goes to the node of its hash, in the order in which it stood.
func TestShuffle(t *testing.T) {
	for _, cols := range [][]int{{0}, {1}, {2}, {3}, {4}, {0, 1}, {1, 0}, {3, 0}, {0, 0}, {4, 4, 1, 4}, {0, 1, 2, 3, 4}, {4, 3, 2, 1, 0}} {
		for _, nodes := range counts() {
			for _, rows := range [][]api.Row{allRows(), allRows()[3:4], nil, {}} {
				f := goes(hasAll, api.WayShuffle, cols...)
				isGone(t, f, rows, nodes)
				if got, e := exec.Goes(f, rows, nodes); e != api.OK || len(got) != nodes {
					t.Errorf("%v of %v: %v, %v", cols, nodes, got, e)
				}
			}
		}
	}
	full := 0
	got, _ := exec.Goes(goes([]int{ki}, api.WayShuffle, 0), counted(100), api.MaxSites)
	for _, l := range got {
		if len(l) > 4 {
			full++
		}
	}
	if full != api.MaxSites {
		t.Error(got)
	}
}

// P20.3: rows and columns whose hashes are known, of each count of nodes.
func TestShuffleOfKnownHashes(t *testing.T) {
	for _, x := range []struct {
		row  string
		cols []int
		hash uint32
	}{
		{"5 'ab'", []int{0}, 0x3fccc750},
		{"-1 'ab'", []int{0}, 0xb141cf7f},
		{"NULL 'ab'", []int{0}, 0xc925cd24},
		{"5 'ab'", []int{1}, 0xb9ad4210},
		{"NULL 'ab'", []int{1}, 0xb9ad4210},
		{"5 'ab'", []int{0, 1}, 0x2a080813},
		{"5 'ab'", []int{1, 0}, 0x3a35f10e},
	} {
		for _, nodes := range counts() {
			want := make([][]api.Row, nodes)
			want[x.hash%uint32(nodes)] = list(x.row)
			goTo(t, goes([]int{ki, kt}, api.WayShuffle, x.cols...), list(x.row), nodes, want...)
		}
	}
	want := make([][]api.Row, 6)
	want[0x7f024564%6] = list("S-2")
	goTo(t, goes([]int{ks}, api.WayShuffle, 0), list("S-2"), 6, want...)
}

// P20.3: the Cols of WayShuffle: none, as many as there may be, one more; a place just there and just not, a place twice, below 0; a column of sums under way.
func TestCols(t *testing.T) {
	rows := allRows()
	for _, nodes := range counts() {
		goNowhere(t, goes(hasAll, api.WayShuffle), rows, nodes, api.ErrFrag)
		for length := 1; length <= api.MaxWidth+2; length++ {
			f := goes(hasAll, api.WayShuffle)
			for k := range length {
				f.Cols = append(f.Cols, k%len(hasAll))
			}
			isGone(t, f, rows, nodes)
			if _, e := exec.Goes(f, rows, nodes); (e == api.OK) != (length <= api.MaxWidth) || e != api.OK && e != api.ErrFrag {
				t.Error(length, e)
			}
			for place := range length {
				for _, wrong := range nowhere(len(hasAll)) {
					f := f
					f.Cols = with(f.Cols, place, wrong)
					goNowhere(t, f, rows, nodes, api.ErrFrag)
					goNowhere(t, f, nil, nodes, api.ErrFrag)
				}
			}
		}
	}
	for width := 1; width <= api.MaxWidth; width++ {
		kinds := slices.Repeat([]int{ki}, width)
		one := []api.Row{slices.Repeat(api.Row{number(5)}, width)}
		goTo(t, goes(kinds, api.WayShuffle, width-1), one, 1, one)
		goNowhere(t, goes(kinds, api.WayShuffle, width), one, 1, api.ErrFrag)
	}
	goNowhere(t, goes(hasAll, api.WayShuffle, make([]int, 1<<16)...), rows, 2, api.ErrFrag)
	// the columns are the root's, not those of what stands below it
	f := frag(input(0, ki), project(col(0), lit(text("a"))))
	f.Way, f.Cols = api.WayShuffle, []int{1}
	isGone(t, f, list("1 'a' / 2 'b'"), 3)
	goTo(t, f, list("1 'a' / 2 'b'"), 1, list("1 'a' / 2 'b'"))
	f = frag(input(0, ki, ki), project(col(0)))
	f.Way, f.Cols = api.WayShuffle, []int{1}
	goNowhere(t, f, list("1"), 3, api.ErrFrag)
	f = frag(input(0, ki), partial(nil, agg(api.AggSum, col(0))))
	f.Way, f.Cols = api.WayShuffle, []int{0}
	isGone(t, f, list("S1 / S-1 / NULL / S18446744073709551616"), 4)
	goTo(t, f, list("S1"), 1, list("S1"))
}

// P20.3: Cols of a Way that has none; a Way that is none, whatever Cols there are.
func TestWays(t *testing.T) {
	rows := allRows()
	for _, nodes := range append(counts(), noCounts()...) {
		for _, way := range []int{api.WayCast, api.WayGather, api.WayRoot} {
			for _, cols := range [][]int{{0}, {0, 1}, {-1}, {9}} {
				goNowhere(t, goes(hasAll, way, cols...), rows, nodes, api.ErrFrag)
			}
			isGone(t, goes(hasAll, way, []int{}...), rows, nodes)
		}
		for _, way := range []int{0, -1, api.WayRoot + 1, api.WayRoot + 2, math.MaxInt, math.MinInt, 1<<32 + api.WayCast, 256 + api.WayShuffle} {
			for _, cols := range [][]int{nil, {}, {0}, {0, 1}} {
				goNowhere(t, goes(hasAll, way, cols...), rows, nodes, api.ErrFrag)
				goNowhere(t, goes(hasAll, way, cols...), nil, nodes, api.ErrFrag)
			}
		}
	}
}

// eachWay are ways of fragments with rows of these kinds, with Cols where they are.
func eachWay(l []api.LNode) []api.Frag {
	return []api.Frag{
		{Nodes: l, At: api.AtAll, Way: api.WayShuffle, Cols: []int{0}}, {Nodes: l, At: api.AtOne, Way: api.WayCast},
		{Nodes: l, Way: api.WayGather}, {Nodes: l, At: math.MinInt, Way: api.WayRoot},
	}
}

// P20.3: nodes that may not be, ahead of what is wrong with rows and counts; where the fragment runs is not asked, nor what stands in a catalog, or reads it.
func TestGoesOfNodes(t *testing.T) {
	for _, l := range noNodes() {
		for _, f := range eachWay(l) {
			for _, nodes := range []int{0, 1, 3, api.MaxSites + 1} {
				for _, rows := range [][]api.Row{nil, counted(3), list("1 2"), counted(api.MaxList + 1), {{noValues()[0]}}} {
					goNowhere(t, f, rows, nodes, api.ErrFrag)
				}
			}
		}
	}
	for _, l := range [][]api.LNode{{scan(3, ki)}, {input(29, ki), input(29, ki), union()}, {scan(0, ki), partial([]int{0})}, {scan(0, kt), sortBy(1)}, {input(0, ks), final(0, api.AggSum)}, {scan(0, ki), input(3, kt), join(never())}} {
		for _, f := range eachWay(steps(l...)) {
			rows := counted(5)
			if l[0].Kinds[0] == kt {
				rows = list("'a' / NULL / 'b'")
			}
			if len(l) == 3 && l[2].Op == api.LJoin {
				rows = list("1 'a' / NULL NULL")
			}
			for _, nodes := range counts() {
				isGone(t, f, rows, nodes)
				if _, e := exec.Goes(f, rows, nodes); e != api.OK {
					t.Error(f, e)
				}
			}
		}
	}
}

// never is a condition that always faults.
func never() api.Expr {
	return on(api.NEq, on(api.NDiv, num(1), num(0)), num(1))
}

// P20.3: counts of nodes that may not be, of each Way; whatever the rows are.
func TestGoesToNoNodes(t *testing.T) {
	for _, nodes := range noCounts() {
		for _, f := range eachWay(steps(input(0, hasAll...))) {
			for _, rows := range [][]api.Row{allRows(), nil, counted(3), counted(api.MaxList + 1)} {
				goNowhere(t, f, rows, nodes, api.ErrArg)
			}
		}
	}
}

// P20.3: rows that do not fit the root's kinds: of another width, of another kind, that may not be, too many; nulls fit, and so do just as many as there may be, though an operator may not come to them.
func TestGoesOfRows(t *testing.T) {
	for _, f := range eachWay(steps(input(0, ki))) {
		for _, nodes := range counts() {
			for _, rows := range [][]api.Row{counted(5), list("NULL / 1 / NULL"), counted(api.MaxRows + 1)} {
				isGone(t, f, rows, nodes)
				for place := range min(len(rows), 5) {
					for _, wrong := range []api.Row{nil, {}, {text("a")}, {yes}, {sum(1)}, {number(1), number(2)}, {number(1), null}, {noValues()[0]}, {noValues()[12]}, make(api.Row, 40)} {
						goNowhere(t, f, with(rows, place, wrong), nodes, api.ErrArg)
					}
				}
			}
		}
		goNowhere(t, f, counted(api.MaxList+1), 2, api.ErrArg)
		goNowhere(t, f, make([]api.Row, api.MaxList), 2, api.ErrArg)
		isGone(t, f, counted(api.MaxList), 2)
		if got, e := exec.Goes(f, counted(api.MaxList), 3); e != api.OK || len(got[0]) == 0 {
			t.Error(f, e)
		}
		goNowhere(t, f, with(counted(api.MaxList), api.MaxList-1, list("'a'")[0]), 2, api.ErrArg)
	}
	for kind := kn; kind <= ks; kind++ {
		for _, f := range eachWay(steps(input(0, ki, kind))) {
			for own, v := range valueOf {
				rows := []api.Row{{number(1), null}, {null, v}}
				isGone(t, f, rows, 3)
				if _, e := exec.Goes(f, rows, 3); (e == api.OK) != (own == kind || own == kn) {
					t.Error(f, rows, e)
				}
			}
		}
	}
}

// P20.3: the numbers of inputs, in the order of the nodes, each as often as it stands there; of whatever nodes.
func TestInputs(t *testing.T) {
	are := func(l []api.LNode, want ...int) {
		t.Helper()
		for _, f := range []api.Frag{{Nodes: l}, {Nodes: l, At: 7, Way: -7, Cols: []int{9}}} {
			if got := exec.Inputs(f); !slices.Equal(got, want) {
				t.Errorf("%v: %v, not %v", l, got, want)
			}
		}
	}
	in := func(table int) api.LNode { return input(table, ki) }
	are(steps(in(4), in(2), union()), 4, 2)
	are(steps(in(2), in(4), union()), 2, 4)
	are(steps(scan(0, ki), in(0), union(), distinct()), 0)
	are(steps(scan(3, ki)))
	are(steps(scan(3, ki), filter(lit(yes)), sortBy(3)))
	are(steps(in(29), final(1), in(0), in(17), union(), join(lit(yes))), 29, 0, 17)
	are(steps(in(5), in(5), union(), in(1), union(), in(5), union()), 5, 5, 1, 5)
	are(nil)
	are([]api.LNode{})
	are([]api.LNode{{}})
	are([]api.LNode{{Op: api.LInput}}, 0)
	are([]api.LNode{in(-1), in(30), in(math.MinInt), in(math.MaxInt), in(-1)}, -1, 30, math.MinInt, math.MaxInt, -1)
	are([]api.LNode{in(3), {Op: -9, Table: 1}, {Op: 99, Table: 2}, {Op: api.LInput, A: 5, B: 6, Table: 4, Limit: 9, Cond: lit(yes)}, {Op: api.LFinal, Table: 7}}, 3, 4)
	var many []api.LNode
	var tables []int
	for k := range 1000 {
		many, tables = append(many, in(k*k), distinct()), append(tables, k*k)
	}
	are(many, tables...)
}
