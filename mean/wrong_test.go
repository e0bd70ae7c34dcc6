package mean_test

import (
	"math"
	"slices"
	"testing"

	"bowsprit/api"
)

// asked are streams, and instances, of plans of one scan that is gathered, over layouts of two nodes: such as there are, and such as there are not, fragments, nodes and streams.
func asked() []api.Stream {
	return []api.Stream{
		{Frag: 0, From: 1, To: 0}, {Frag: 0, From: 2, To: 0}, {Frag: 1, From: 0, To: 0},
		{Frag: 2}, {Frag: -1}, {Frag: math.MaxInt}, {Frag: math.MinInt, From: math.MinInt, To: math.MinInt},
		{Frag: 0, From: 0}, {Frag: 0, From: 3}, {Frag: 0, From: -1}, {Frag: 1, From: 1}, {Frag: 0, From: 1, To: 1}, {Frag: 0, From: 1, To: -1}, {Frag: 0, From: math.MaxInt},
	}
}

// ordinary is a plan that may be, over some; it faults, or is too much, or comes to rows.
func ordinary() []api.Plan {
	return []api.Plan{
		planOf(onAll(api.WayGather, scanU()), root(input(0, ki))),
		planOf(onAll(api.WayGather, scanU(), project(bad(0, 1))), root(input(0, ki))),
		planOf(onAll(api.WayGather, over()...), root(input(0, ki))),
		planOf(fourWays()...),
	}
}

// wrong is a plan, or a layout, that may not be, and the error of it.
type wrong[T any] struct {
	what T
	err  api.Errno
}

// noPlans are plans that may not be over some.
func noPlans() (l []wrong[api.Plan]) {
	add := func(e api.Errno, frags ...api.Frag) {
		l = append(l, wrong[api.Plan]{planOf(frags...), e})
	}
	add(api.ErrPlan)
	add(api.ErrPlan, onAll(api.WayGather, scanU()))
	add(api.ErrPlan, root(input(0, ki)))
	add(api.ErrPlan, onAll(api.WayGather, scanU()), root(input(0, kt)))
	add(api.ErrPlan, onAll(api.WayCast, scanU()), root(input(0, ki)))
	add(api.ErrPlan, by(onAll(api.WayShuffle, scanU()), 0), root(input(0, ki)))
	add(api.ErrPlan, onAll(api.WayGather, scanU()), onAll(api.WayGather, input(0, ki)), root(input(1, ki)))
	add(api.ErrPlan, onAll(api.WayGather, scanU()), root(input(0, ki), input(0, ki), union()))
	add(api.ErrPlan, onAll(api.WayGather, scanU()), onAll(api.WayGather, scanU()), root(input(0, ki)))
	add(api.ErrPlan, onAll(api.WayGather, scanU()), onOne(api.WayGather, input(0, ki)))
	add(api.ErrPlan, onAll(api.WayGather, scanU(), partial(nil, agg(api.AggSum, col(0)))), root(input(0, ks)))
	add(api.ErrPlan, slices.Repeat([]api.Frag{onAll(api.WayGather, scanU())}, api.MaxFrags+1)...)
	add(api.ErrPlan, make([]api.Frag, api.MaxFrags+1)...)
	add(api.ErrFrag, api.Frag{})
	add(api.ErrFrag, make([]api.Frag, api.MaxFrags)...)
	add(api.ErrFrag, onAll(api.WayGather, scan(1, kt)), root(input(0, kt)))
	add(api.ErrFrag, onAll(api.WayGather, scan(4, ki)), root(input(0, ki)))
	add(api.ErrFrag, onAll(api.WayGather, scanU(), filter(num(1))), root(input(0, ki)))
	add(api.ErrFrag, onAll(api.WayShuffle, scanU()), onAll(api.WayGather, input(0, ki)), root(input(1, ki)))
	add(api.ErrFrag, by(onAll(api.WayShuffle, scanU()), 1), onAll(api.WayGather, input(0, ki)), root(input(1, ki)))
	add(api.ErrFrag, by(onAll(api.WayGather, scanU()), 0), root(input(0, ki)))
	add(api.ErrFrag, onOne(api.WayGather, scanU()), root(input(0, ki)))
	add(api.ErrFrag, onAll(api.WayGather, scanU()), api.Frag{Nodes: steps(input(0, ki)), At: 3, Way: api.WayRoot})
	add(api.ErrFrag, onAll(5, scanU()), root(input(0, ki)))
	add(api.ErrFrag, onAll(api.WayGather, scanU()), root(input(0, kt)), onAll(0, scanU())) // a fragment by itself goes ahead of how they go together
	return l
}

// spoiled is a layout of three parts with something done to it.
func spoiled(deed func(l *api.Layout)) api.Layout {
	l := laid(some(), 3, []int{3, 1}, list("1 2 / 5 NULL"), counted(7), list("'a' 1"), list("1 'a'"))
	deed(&l)
	return l
}

// astray is a layout that does not obey: a row of t lies at the node behind its own one.
func astray() api.Layout {
	l := bare(some(), 3)
	l.Parts[nodeOf(list("1 2")[0], []int{0}, 3)%3].Tables[0] = list("1 2")
	return l
}

// noLayouts are layouts that may not be of some, and such as do not obey.
func noLayouts() (l []wrong[api.Layout]) {
	add := func(e api.Errno, x api.Layout) {
		l = append(l, wrong[api.Layout]{x, e})
	}
	add(api.ErrLayout, api.Layout{})
	add(api.ErrLayout, api.Layout{Parts: []api.Base{}})
	add(api.ErrLayout, bare(some(), api.MaxSites+1))
	add(api.ErrLayout, spoiled(func(l *api.Layout) { l.Parts = append(l.Parts, api.Base{}) }))
	add(api.ErrLayout, spoiled(func(l *api.Layout) { l.Parts[2].Tables = l.Parts[2].Tables[:3] }))
	add(api.ErrLayout, spoiled(func(l *api.Layout) { l.Parts[1].Tables = append(l.Parts[1].Tables, nil) }))
	for node := range 3 {
		add(api.ErrLayout, spoiled(func(l *api.Layout) { l.Parts[node].Tables[1] = append(l.Parts[node].Tables[1], counted(6)...) })) // 13 rows in all
		add(api.ErrLayout, spoiled(func(l *api.Layout) { l.Parts[node].Tables[1] = list("'a'") }))
		add(api.ErrLayout, spoiled(func(l *api.Layout) { l.Parts[node].Tables[3] = []api.Row{{}} }))
		add(api.ErrLayout, spoiled(func(l *api.Layout) { l.Parts[node].Tables[3] = list("1 'a' 2") }))
		add(api.ErrLayout, spoiled(func(l *api.Layout) { l.Parts[node].Tables[1] = []api.Row{{{Kind: kb, N: 2}}} }))
		add(api.ErrLayout, spoiled(func(l *api.Layout) { l.Parts[node].Tables[1] = list("S1") }))
	}
	both := astray()
	both.Parts[0].Tables[3] = counted(1)
	add(api.ErrLayout, both)
	add(api.ErrScheme, astray())
	add(api.ErrScheme, spoiled(func(l *api.Layout) { slices.Reverse(l.Parts) }))
	add(api.ErrScheme, spoiled(func(l *api.Layout) { l.Parts = l.Parts[:2] }))
	return l
}

// refusesAllStreams holds that it does.
func (r run) refusesAllStreams(t *testing.T, want api.Errno) {
	t.Helper()
	if errByRule(r.Plan, r.Catalog, r.Layout) != want {
		t.Fatal(r, want)
	}
	r.isRefused(t, want, asked()...)
}

// P21.1 to P21.3: a catalog that may not be goes ahead of all else.
func TestCatalogAheadOfAll(t *testing.T) {
	good := laid(some(), 2, []int{1, 2}, list("1 2 / 5 NULL"), counted(7))
	for _, c := range noCatalogs() {
		for _, p := range ordinary() {
			run{p, c, good}.refusesAllStreams(t, api.ErrCatalog)
			for _, l := range noLayouts() {
				run{p, c, l.what}.refusesAllStreams(t, api.ErrCatalog)
			}
		}
		for _, p := range noPlans() {
			run{p.what, c, good}.refusesAllStreams(t, api.ErrCatalog)
			run{p.what, c, astray()}.refusesAllStreams(t, api.ErrCatalog)
			run{p.what, c, api.Layout{}}.refusesAllStreams(t, api.ErrCatalog)
		}
	}
}

// P21.1 to P21.3: then a plan that may not be, with the error that layer 18 says.
func TestPlanAheadOfLayout(t *testing.T) {
	good := laid(some(), 2, []int{1, 2}, list("1 2 / 5 NULL"), counted(7))
	for _, p := range noPlans() {
		run{p.what, some(), good}.refusesAllStreams(t, p.err)
		for _, l := range noLayouts() {
			run{p.what, some(), l.what}.refusesAllStreams(t, p.err)
		}
	}
	for _, p := range ordinary() {
		run{p, api.Catalog{}, good}.refusesAllStreams(t, api.ErrFrag) // a catalog without tables may be: there is no table to scan
		run{p, cat(tab("t", "a int b int", 0), tab("u", "c text")), good}.refusesAllStreams(t, api.ErrFrag)
	}
}

// P21.1 to P21.3: then a layout that may not be, then one that does not obey; both ahead of a fragment, a node, a stream that there is not, and of what the plan would come to.
func TestLayoutAheadOfTheRest(t *testing.T) {
	for _, p := range ordinary() {
		for _, l := range noLayouts() {
			run{p, some(), l.what}.refusesAllStreams(t, l.err)
		}
		other := cat(tab("t", "a int b int"), tab("u", "c int"), tab("v", "d text e int"), tab("w", "f int g text")) // without Keys: no row lies astray
		for _, l := range noLayouts() {
			if l.err == api.ErrScheme {
				run{p, other, l.what}.isAllAsReckoned(t)
			} else {
				run{p, other, l.what}.refusesAllStreams(t, api.ErrLayout)
			}
		}
	}
}

// P21.1: what a plan does not scan has to be in order, too; what it means hangs on what it scans alone.
func TestTablesThatAreNotScanned(t *testing.T) {
	for _, l := range []api.Layout{ofU("1", "2"), laid(some(), 2, []int{1, 2}, list("1 2 / 5 NULL"), list("1 / 2"), list("'a' 1"), list("1 'a' / 2 NULL"))} {
		of(l, onAll(api.WayGather, scanU()), root(input(0, ki))).meansRows(t, "1 / 2")
	}
}
