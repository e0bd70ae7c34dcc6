package prop_test

import (
	"math"
	"slices"
	"testing"

	"bowsprit/api"
)

// plans are plans that may be, over the chapter's catalog: of two, three and more fragments, of which one reads another one by each Way, and one reads several; sound ones, and such as are not.
func plans() []api.Plan {
	sums := []api.Agg{agg(api.AggAll), agg(api.AggSum, col(1)), agg(api.AggMax, col(1))}
	end := final(1, api.AggAll, api.AggSum, api.AggMax)
	return []api.Plan{
		plan(onAll(api.WayGather, scanT()), root(0, ki, ki)),
		plan(onAll(api.WayGather, scanU()), onOne(api.WayRoot, input(0, ki), filter(on(api.NGt, col(0), num(1))), sortBy(3))),
		plan(by(onAll(api.WayShuffle, scanU()), 0), onAll(api.WayGather, scanT(), input(0, ki), join(eq(0, 2))), root(1, ki, ki, ki)),
		plan(onAll(api.WayCast, scanU()), onAll(api.WayGather, scanT(), input(0, ki), leftJoin(unsafe())), root(1, ki, ki, ki)),
		plan(by(onAll(api.WayShuffle, scanV(), partial([]int{2}, agg(api.AggAll), agg(api.AggSum, col(1)))), 0), onAll(api.WayGather, input(0, kt, ki, ks), final(1, api.AggAll, api.AggSum)), root(1, kt, ki, ki)),
		plan(onAll(api.WayGather, scanT(), partial([]int{1}, sums...)), onOne(api.WayRoot, input(0, ki, ki, ks, ki), end, sortBy(-1, api.Ord{Col: 2}))),
		plan(onAll(api.WayGather, scanT(), sortBy(4, api.Ord{Col: 1, Desc: true})), onOne(api.WayRoot, input(0, ki, ki), sortBy(4, api.Ord{Col: 1, Desc: true}))),
		plan(by(onAll(api.WayShuffle, scanT()), 1, 0), by(onAll(api.WayShuffle, scanT()), 0, 1), onAll(api.WayGather, input(0, ki, ki), input(1, ki, ki), join(both(eq(1, 2), eq(0, 3)))), root(2, ki, ki, ki, ki)),
		plan(onAll(api.WayGather, scanT()), onAll(api.WayGather, scanU()), onAll(api.WayCast, scanU()), onAll(api.WayGather, input(2, ki)), onOne(api.WayRoot, input(1, ki), input(3, ki), union(), input(0, ki, ki), join(lit(yes)))),
		plan(onAll(api.WayGather, scanU()), by(onOne(api.WayShuffle, input(0, ki), distinct()), 0, 0), onAll(api.WayGather, input(1, ki), distinct()), root(2, ki)),
		plan(onAll(api.WayGather, scanU()), onOne(api.WayCast, input(0, ki)), onAll(api.WayGather, scanT(), input(1, ki), join(eq(1, 2))), root(2, ki, ki, ki)),
		plan(onAll(api.WayGather, scanU(), partial(nil, agg(api.AggSum, col(0)))), onOne(api.WayCast, input(0, ks)), onAll(api.WayGather, input(1, ks), final(0, api.AggSum)), root(2, ki)),
		plan(onAll(api.WayGather, scanT(), group([]int{1}, sums...)), root(0, ki, ki, ki, ki)),
		plan(onAll(api.WayGather, scanU()), onOne(api.WayGather, input(0, ki), partial(nil, agg(api.AggMin, col(0)))), onOne(api.WayRoot, input(1, ki), partial([]int{0}))),
		plan(by(onAll(api.WayShuffle, scanV()), 3, 2, 1, 0), onAll(api.WayGather, input(0, kb, ki, kt, ki), scanV(), union(), distinct()), root(1, kb, ki, kt, ki)),
		turns(5), turns(api.MaxFrags),
	}
}

// turns is a plan of as many fragments, each of which reads the one ahead of it, gathered, shuffled and cast in turn.
func turns(count int) api.Plan {
	frags := []api.Frag{onAll(api.WayGather, scanU())}
	for k := 1; k < count-1; k++ {
		frags = append(frags, []api.Frag{
			onOne(api.WayGather, input(k-1, ki)),
			by(onOne(api.WayShuffle, input(k-1, ki)), 0),
			onAll(api.WayCast, input(k-1, ki)),
			onAll(api.WayGather, input(k-1, ki), filter(lit(yes))),
		}[k%4])
	}
	last := &frags[len(frags)-1]
	last.Way, last.Cols = api.WayGather, nil
	return plan(append(frags, root(len(frags)-1, ki))...)
}

// P18.2: plans that may be; as the program is handed them, and with lists that are there, and empty.
func TestPlansThatMayBe(t *testing.T) {
	for _, p := range plans() {
		if _, _, e := checkByRule(p, chapters()); e != api.OK {
			t.Fatal(p, e)
		}
		planMayBe(t, p)
		p = copyOf(p)
		for k := range p.Frags {
			f := &p.Frags[k]
			f.Nodes = emptied(f.Nodes)
			f.Cols = append([]int{}, f.Cols...)
		}
		planMayBe(t, p)
	}
}

// P18.2: a catalog that may not be goes ahead of all else.
func TestNoCatalog(t *testing.T) {
	for _, c := range noCatalogs() {
		for _, p := range append(plans()[:4], plan(), plan(api.Frag{}), plan(onAll(api.WayRoot, scanU()))) {
			says(t, 0, 0, api.ErrCatalog, p, c)
		}
	}
	says(t, 0, 0, api.ErrFrag, plans()[0], cat())
	says(t, 0, 0, api.ErrPlan, plan(), cat())
}

// P18.2: no fragment, as many as there may be, one more: that goes ahead of whatever is wrong with one.
func TestCountOfFrags(t *testing.T) {
	says(t, 0, 0, api.ErrPlan, plan(), chapters())
	says(t, 0, 0, api.ErrPlan, api.Plan{Frags: []api.Frag{}}, chapters())
	for count := 3; count <= api.MaxFrags; count++ {
		planMayBe(t, turns(count))
	}
	for _, count := range []int{api.MaxFrags + 1, api.MaxFrags + 2, 100, 1 << 16} {
		says(t, 0, 0, api.ErrPlan, plan(slices.Repeat([]api.Frag{onAll(api.WayGather, scanU())}, count)...), chapters())
		says(t, 0, 0, api.ErrPlan, plan(make([]api.Frag, count)...), chapters())
	}
	says(t, 0, 0, api.ErrPlan, turns(api.MaxFrags+1), chapters())
	wide := onOne(api.WayRoot, input(0, ki)) // one that reads all others
	frags := []api.Frag{onAll(api.WayGather, scanU())}
	for k := 1; k < api.MaxFrags-1; k++ {
		frags = append(frags, onAll(api.WayGather, scanU()))
		wide = onOne(api.WayRoot, append(wide.Nodes, input(k, ki), union())...)
	}
	planMayBe(t, plan(append(frags, wide)...))
	noPlan(t, 0, plan(onOne(api.WayRoot, input(0, ki)))) // P18.6: no plan of one fragment
	noFrag(t, 0, 0, plan(onOne(api.WayRoot, scanU())))
	noPlan(t, 0, plan(onAll(api.WayRoot, scanU())))
	noPlan(t, 0, plan(onAll(api.WayGather, scanU())))
}

// spoiled is a plan with a fragment changed.
func spoiled(p api.Plan, frag int, change func(f *api.Frag)) api.Plan {
	p = copyOf(p)
	change(&p.Frags[frag])
	return p
}

// P18.2: where a fragment runs, and how its rows go on, beside each end.
func TestAtAndWay(t *testing.T) {
	for _, p := range plans() {
		for frag := range p.Frags {
			for _, wrong := range []int{0, -1, api.AtOne + 1, math.MaxInt, math.MinInt, 1<<32 + 1, 257} {
				noFrag(t, frag, 0, spoiled(p, frag, func(f *api.Frag) { f.At = wrong }))
			}
			for _, wrong := range []int{0, -1, api.WayRoot + 1, math.MaxInt, math.MinInt, 1<<32 + 2, 258} {
				noFrag(t, frag, 0, spoiled(p, frag, func(f *api.Frag) { f.Way, f.Cols = wrong, nil }))
				noFrag(t, frag, 0, spoiled(p, frag, func(f *api.Frag) { f.Way, f.Cols = wrong, []int{0} }))
			}
		}
	}
}

// P18.2: Cols are of WayShuffle alone: from one to MaxWidth of them, places of the root's columns, any often, none of VSum.
func TestCols(t *testing.T) {
	shuffled := func(way int, cols []int, l ...api.LNode) api.Plan {
		f := onAll(way, l...)
		f.Cols = cols
		kinds := lastOf(must(kindsByRule(f.Nodes)))
		return gathered(kinds, f)
	}
	for count := range api.MaxWidth + 3 {
		for k := range 4 {
			p := shuffled(api.WayShuffle, slices.Repeat([]int{k}, count), scanV())
			if count >= 1 && count <= api.MaxWidth {
				planMayBe(t, p)
			} else {
				noFrag(t, 0, 0, p)
			}
		}
	}
	noFrag(t, 0, 0, shuffled(api.WayShuffle, make([]int, 1<<16), scanV()))
	wide := slices.Repeat([]api.Expr{col(0)}, api.MaxWidth)
	var each []int
	for k := range api.MaxWidth {
		each = append(each, api.MaxWidth-1-k)
	}
	planMayBe(t, shuffled(api.WayShuffle, each, scanU(), project(wide...)))
	noFrag(t, 0, 0, shuffled(api.WayShuffle, append(each, 0), scanU(), project(wide...)))
	for width := 1; width <= 4; width++ {
		for _, wrong := range nowhere(width) {
			for place := range 3 {
				good := []int{0, width - 1, 0}
				planMayBe(t, shuffled(api.WayShuffle, good, scanV(), project(wide[:width]...)))
				noFrag(t, 0, 0, shuffled(api.WayShuffle, with(good, place, wrong), scanV(), project(slices.Repeat([]api.Expr{col(1)}, width)...)))
			}
		}
	}
	for _, way := range []int{api.WayCast, api.WayGather} {
		planMayBe(t, shuffled(way, []int{}, scanV()))
		noFrag(t, 0, 0, shuffled(way, []int{0}, scanV()))
		noFrag(t, 0, 0, shuffled(way, []int{1, 2}, scanV()))
	}
	noFrag(t, 1, 0, spoiled(plans()[0], 1, func(f *api.Frag) { f.Cols = []int{0} }))
	under := []api.LNode{scanT(), partial([]int{0}, agg(api.AggSum, col(1)), agg(api.AggAll))}
	for _, cols := range [][]int{{0}, {2}, {0, 2}} {
		planMayBe(t, shuffled(api.WayShuffle, cols, under...))
	}
	for _, cols := range [][]int{{1}, {0, 1}, {1, 2}, {0, 1, 2}} {
		noFrag(t, 0, 0, shuffled(api.WayShuffle, cols, under...))
	}
}

// P18.2: each scan is AtAll, of a table that there is, and of its columns' kinds.
func TestScans(t *testing.T) {
	for _, n := range []api.LNode{scanT(), scanU(), scanV(), scanW()} {
		planMayBe(t, gathered(n.Kinds, onAll(api.WayGather, n)))
		noFrag(t, 0, 0, gathered(n.Kinds, onOne(api.WayGather, n)))
		noFrag(t, 0, 0, gathered(n.Kinds, onOne(api.WayGather, n, distinct())))
		for table := range api.MaxTables {
			if p := gathered(n.Kinds, onAll(api.WayGather, scan(table, n.Kinds...))); table != n.Table {
				noFrag(t, 0, 0, p)
			}
		}
		for place, kind := range n.Kinds {
			for other := kb; other <= kt; other++ {
				kinds := with(n.Kinds, place, other)
				if other != kind {
					noFrag(t, 0, 0, gathered(kinds, onAll(api.WayGather, scan(n.Table, kinds...))))
				}
			}
		}
		if len(n.Kinds) > 1 {
			noFrag(t, 0, 0, gathered(n.Kinds[1:], onAll(api.WayGather, scan(n.Table, n.Kinds[1:]...))))
		}
		if len(n.Kinds) < api.MaxColumns {
			more := append(slices.Clone(n.Kinds), ki)
			noFrag(t, 0, 0, gathered(more, onAll(api.WayGather, scan(n.Table, more...))))
		}
	}
	p := gathered([]int{ki}, onAll(api.WayGather, scanU()))
	for tables := range 4 {
		c := cat(chapters().Tables[:tables]...)
		if tables > 1 {
			says(t, 0, 0, api.OK, p, c)
		} else {
			says(t, 0, 0, api.ErrFrag, p, c)
		}
	}
	noFrag(t, 0, 0, gathered([]int{ki}, onAll(api.WayGather, scanU(), scan(1, kt), join(lit(yes)), picked(0)))) // the second one is wrong
	noFrag(t, 1, 0, plan(onAll(api.WayGather, scanU()), onOne(api.WayRoot, input(0, ki), scanU(), union())))
}

// P18.2: the place of a node with which a fragment may not be; 0 of whatever else; the nodes ahead of that.
func TestPlaceOfAFrag(t *testing.T) {
	for k, p := range plans() {
		for frag, f := range p.Frags {
			for place := range f.Nodes {
				wrong := spoiled(p, frag, func(f *api.Frag) { f.Nodes[place].Limit = -3 })
				noFrag(t, frag, place, wrong)
				noFrag(t, frag, place, spoiled(wrong, frag, func(f *api.Frag) { f.At, f.Way, f.Cols = 0, 0, []int{99} }))
				if frag > 0 {
					noFrag(t, 0, 0, spoiled(wrong, 0, func(f *api.Frag) { f.At = 0 }))
					noFrag(t, frag, place, spoiled(wrong, frag-1, func(f *api.Frag) { f.Way, f.Cols = api.WayRoot, nil }))
				}
				if frag < len(p.Frags)-1 && k < 5 {
					noFrag(t, frag, place, spoiled(wrong, frag+1, func(f *api.Frag) { f.Nodes[0].A = 7 }))
				}
			}
			noFrag(t, frag, 0, spoiled(p, frag, func(f *api.Frag) { f.Nodes = nil }))
			noFrag(t, frag, 0, spoiled(p, frag, func(f *api.Frag) { f.Nodes = make([]api.LNode, api.MaxSteps+1) }))
			behind := len(f.Nodes)
			if op := f.Nodes[behind-1].Op; op == api.LSort || op == api.LPartial {
				behind--
			}
			noFrag(t, frag, behind, spoiled(p, frag, func(f *api.Frag) { f.Nodes = append(f.Nodes, api.LNode{}) }))
		}
	}
}

// P18.2: the last fragment has WayRoot, is AtOne, has no column of VSum, and nobody reads it.
func TestLast(t *testing.T) {
	first, second := onAll(api.WayGather, scanU()), onAll(api.WayCast, scanU())
	planMayBe(t, plan(first, onOne(api.WayRoot, input(0, ki))))
	for _, way := range []int{api.WayCast, api.WayGather} {
		noPlan(t, 1, plan(first, onOne(way, input(0, ki))))
	}
	noPlan(t, 1, plan(first, by(onOne(api.WayShuffle, input(0, ki)), 0)))
	noPlan(t, 1, plan(second, onAll(api.WayRoot, input(0, ki))))
	noPlan(t, 0, plan(first, onAll(api.WayRoot, input(0, ki)))) // and not as its rows go on: that comes first
	for _, kinds := range [][]int{{ks}, {ki, ks}, {ks, ki, ki}} {
		feed := onAll(api.WayGather, scanT(), partial(nil, under(kinds)...))
		noPlan(t, 1, plan(feed, onOne(api.WayRoot, input(0, kinds...))))
		planMayBe(t, plan(feed, root(0, kinds...)))
	}
	noPlan(t, 1, plan(first, onOne(api.WayRoot, input(0, ki), partial(nil, agg(api.AggSum, col(0))))))
	planMayBe(t, plan(first, onOne(api.WayRoot, input(0, ki), partial(nil, agg(api.AggAll)))))
	noPlan(t, 1, plan(first, onOne(api.WayRoot, input(0, ki), input(1, ki), union())))
}

// under are aggregates that come to columns of kinds, some of them sums under way, over a first column of VInt.
func under(kinds []int) []api.Agg {
	var l []api.Agg
	for _, k := range kinds {
		switch k {
		case ks:
			l = append(l, agg(api.AggSum, col(0)))
		case ki:
			l = append(l, agg(api.AggAll))
		default:
			l = append(l, agg(api.AggMin, lit(valueOf[k])))
		}
	}
	return l
}

// P18.2: WayRoot is the last one's alone.
func TestRootAhead(t *testing.T) {
	for _, p := range plans() {
		for frag := range len(p.Frags) - 1 {
			noPlan(t, frag, spoiled(p, frag, func(f *api.Frag) { f.Way, f.Cols = api.WayRoot, nil }))
		}
	}
	noPlan(t, 0, plan(onAll(api.WayRoot, scanU()), onOne(api.WayRoot, input(0, ki))))
	noPlan(t, 1, plan(onAll(api.WayGather, scanU()), onOne(api.WayRoot, input(0, ki)), onOne(api.WayRoot, input(1, ki))))
	noPlan(t, 1, plan(onAll(api.WayGather, scanU()), onOne(api.WayRoot, input(0, ki)), onAll(api.WayGather, scanU()), onOne(api.WayRoot, input(2, ki))))
}

// P18.2: what an LInput reads is an earlier fragment than its own, whatever stands around it.
func TestInputsOfEarlier(t *testing.T) {
	for _, p := range plans() {
		for _, s := range inputsByRule(p) {
			set := func(table int) api.Plan {
				return spoiled(p, s.frag, func(f *api.Frag) { f.Nodes[s.place].Table = table })
			}
			for table := s.frag; table < api.MaxFrags; table++ {
				q := set(table)
				frag, place, e := checkByRule(q, chapters())
				says(t, frag, place, e, q, chapters())
				if e != api.ErrPlan || frag > s.frag {
					t.Error(q, frag, e)
				}
			}
			noFrag(t, s.frag, s.place, set(api.MaxFrags))
			noFrag(t, s.frag, s.place, set(-1))
		}
	}
	first := onAll(api.WayGather, scanU())
	for table := 1; table < api.MaxFrags; table++ { // its own one, later ones, such as there are not
		noPlan(t, 1, plan(first, onOne(api.WayGather, input(0, ki), input(table, ki), union()), first, onOne(api.WayRoot, input(2, ki))))
		noPlan(t, 0, plan(onAll(api.WayGather, scanU(), input(table, ki), union()), onOne(api.WayRoot, input(0, ki))))
	}
	noPlan(t, 0, plan(onAll(api.WayGather, input(0, ki)), onOne(api.WayRoot, input(0, ki))))
	noPlan(t, 1, plan(first, onOne(api.WayGather, input(0, ki), input(3, ki), union()), first, onOne(api.WayRoot, input(2, ki))))
}

// P18.2: the kinds of an LInput are just those of the root's columns of what it reads.
func TestKindsOfInputs(t *testing.T) {
	for _, want := range [][]int{{ki}, {ki, ks, ki}, {kn, kb, ki, kt}, {kt, kt}, {kn}, {ks, ks}} {
		feed := onAll(api.WayGather, scanU(), partial(nil, under(want)...))
		planMayBe(t, gathered(want, feed))
		var others [][]int
		for place, kind := range want {
			for other := kn; other <= ks; other++ {
				if other != kind {
					others = append(others, with(want, place, other))
				}
			}
			others = append(others, slices.Insert(slices.Clone(want), place, kind))
			if len(want) > 1 {
				others = append(others, slices.Delete(slices.Clone(want), place, place+1))
			}
		}
		others = append(others, append(slices.Clone(want), kn))
		for _, kinds := range others {
			noPlan(t, 1, gathered(kinds, feed))
		}
	}
	one, two := onAll(api.WayGather, scanU()), onAll(api.WayGather, scanW())
	planMayBe(t, plan(one, two, onOne(api.WayRoot, input(0, ki), input(1, kt, kb), join(lit(yes)))))
	planMayBe(t, plan(two, one, onOne(api.WayRoot, input(1, ki), input(0, kt, kb), join(lit(yes)))))
	noPlan(t, 2, plan(one, two, onOne(api.WayRoot, input(1, ki), input(0, kt, kb), join(lit(yes)))))
	noPlan(t, 2, plan(one, two, onOne(api.WayRoot, input(0, ki), input(1, kb, kt), join(lit(yes)))))
}

// P18.2: a fragment that no LInput reads, that two read, in one fragment and in two.
func TestCountOfReaders(t *testing.T) {
	first := onAll(api.WayGather, scanU())
	noPlan(t, 0, plan(first, first, onOne(api.WayRoot, input(1, ki))))
	noPlan(t, 1, plan(first, first, onOne(api.WayRoot, input(0, ki))))
	noPlan(t, 0, plan(first, onOne(api.WayRoot, input(0, ki), input(0, ki), union())))
	noPlan(t, 1, plan(first, first, onOne(api.WayRoot, input(1, ki), input(0, ki), union(), input(1, ki), union())))
	noPlan(t, 0, plan(first, onOne(api.WayGather, input(0, ki)), onOne(api.WayRoot, input(1, ki), input(0, ki), union())))
	cast := onAll(api.WayCast, scanU())
	noPlan(t, 0, plan(cast, onAll(api.WayGather, input(0, ki)), onAll(api.WayGather, input(0, ki)), onOne(api.WayRoot, input(1, ki), input(2, ki), union())))
	for _, p := range plans() {
		for _, s := range inputsByRule(p) {
			for frag, f := range p.Frags {
				n := p.Frags[s.frag].Nodes[s.place]
				if l, ok := besides(f.Nodes, n); ok && frag > n.Table {
					noPlan(t, n.Table, spoiled(p, frag, func(f *api.Frag) { f.Nodes = l }))
				}
			}
		}
	}
}

// besides has a leaf joined to the root of nodes, and its columns away again; if it can be.
func besides(l []api.LNode, leaf api.LNode) ([]api.LNode, bool) {
	var cols []int
	for k := range lastOf(must(kindsByRule(l))) {
		cols = append(cols, k)
	}
	l = steps(append(slices.Clone(l), leaf, join(lit(yes)), picked(cols...))...)
	_, _, ok := kindsByRule(l)
	return l, ok
}

// P18.2: each Way, with a reader AtAll, and with one AtOne, of a fragment AtAll, and of one AtOne.
func TestWaysOfReaders(t *testing.T) {
	for _, at := range []int{api.AtAll, api.AtOne} {
		for way := api.WayShuffle; way <= api.WayGather; way++ {
			for _, reader := range []int{api.AtAll, api.AtOne} {
				f := api.Frag{Nodes: steps(input(0, ki)), At: at, Way: way}
				if way == api.WayShuffle {
					f.Cols = []int{0}
				}
				feed := onAll(map[int]int{api.AtAll: api.WayCast, api.AtOne: api.WayGather}[at], scanU())
				p := plan(feed, f, api.Frag{Nodes: steps(input(1, ki)), At: reader, Way: api.WayGather}, root(2, ki))
				if (way == api.WayGather) == (reader == api.AtOne) {
					planMayBe(t, p)
				} else {
					noPlan(t, 1, p)
				}
			}
		}
	}
	for _, p := range plans() {
		for frag := range len(p.Frags) - 1 {
			if lastOf(must(kindsByRule(p.Frags[frag].Nodes)))[0] == ks {
				continue
			}
			for way := api.WayShuffle; way <= api.WayGather; way++ {
				q := spoiled(p, frag, func(f *api.Frag) {
					if f.Way, f.Cols = way, nil; way == api.WayShuffle {
						f.Cols = []int{0}
					}
				})
				if (way == api.WayGather) == (p.Frags[frag].Way == api.WayGather) {
					planMayBe(t, q)
				} else {
					noPlan(t, frag, q)
				}
			}
		}
	}
}

// P18.2: of several fragments with which a plan may not be the first one, be it by what it reads, by its Way, or by who reads it; each fragment by itself goes ahead of all that.
func TestFirstOfSeveralFrags(t *testing.T) {
	first := onAll(api.WayGather, scanU())
	unread := []api.Frag{first, onAll(api.WayRoot, scanU()), onAll(api.WayGather, input(7, ki)), onAll(api.WayCast, scanU())}
	for _, x := range unread {
		for _, y := range unread {
			noPlan(t, 0, plan(x, y, first, onOne(api.WayRoot, input(2, ki))))
			noPlan(t, 1, plan(first, x, y, onOne(api.WayRoot, input(0, ki))))
			noPlan(t, 1, plan(first, x, onOne(api.WayGather, input(0, ki)), y, onAll(api.WayGather, input(2, ki))))
			noFrag(t, 2, 0, plan(x, y, onOne(api.WayGather, scanU()), onOne(api.WayRoot, input(9, kb))))
			noFrag(t, 3, 1, plan(x, y, first, onOne(api.WayRoot, input(9, kb), filter(num(1)))))
			noFrag(t, 1, 0, plan(x, api.Frag{}, api.Frag{}, y))
		}
	}
	noPlan(t, 0, plan(first, onOne(api.WayGather, input(0, kb)), onOne(api.WayRoot, input(1, kb), input(0, ki), join(lit(yes)))))
	noPlan(t, 1, plan(first, onOne(api.WayGather, input(0, kb)), onAll(api.WayRoot, input(1, kb), input(1, ki), join(lit(yes)))))
}
