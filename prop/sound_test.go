package prop_test

import (
	"slices"
	"testing"

	"bowsprit/api"
	"bowsprit/prop"
)

// P18.4: the chapter's examples.
func TestSoundOfExamples(t *testing.T) {
	isSound(t, of(onAll(api.WayGather, scanT(), picked(1, 0))))
	isSound(t, of(onAll(api.WayGather, scanT(), group([]int{1, 0}))))
	isNot(t, 0, 1, of(onAll(api.WayGather, scanT(), group([]int{1}))))
	isSound(t, of(onAll(api.WayGather, scanT(), input(0, ki), join(eq(0, 2))), cast(scanU())))
}

// ahead is what reads a fragment of kinds that is the frag-th, such that this one is sound whichever way its rows go on; and the root.
func ahead(way, frag int, kinds []int) []api.Frag {
	switch way {
	case api.WayGather:
		return []api.Frag{root(frag, kinds...)}
	case api.WayCast:
		return []api.Frag{onAll(api.WayGather, scanU(), input(frag, kinds...), join(lit(yes)), picked(0)), root(frag+1, ki)}
	}
	return []api.Frag{onAll(api.WayGather, input(frag, kinds...)), root(frag+1, kinds...)}
}

// verdict holds that nodes AtAll are sound (-1), or that the one of a place is not, whichever way their rows go on.
func verdict(t *testing.T, place int, feeds []api.Frag, l ...api.LNode) {
	t.Helper()
	for _, f := range []api.Frag{onAll(api.WayGather, l...), onAll(api.WayCast, l...), by(onAll(api.WayShuffle, l...), 0)} {
		kinds := lastOf(must(kindsByRule(f.Nodes)))
		p := plan(slices.Concat(feeds, []api.Frag{f}, ahead(f.Way, len(feeds), kinds))...)
		if place < 0 {
			isSound(t, p)
		} else {
			isNot(t, len(feeds), place, p)
		}
	}
}

// P18.4: leaves are sound, and filters, projections of whatever; but a fragment is not whose root is whole: told there.
func TestAlwaysSound(t *testing.T) {
	for _, s := range sides() {
		for _, l := range [][]api.LNode{{s.leaf}, {s.leaf, filter(unsafe())}, {s.leaf, picked(1)}, {s.leaf, project(on(api.NDiv, col(0), col(1))), filter(lit(yes))}} {
			verdict(t, map[bool]int{true: len(l) - 1, false: -1}[s.prop.Kind == api.PropWhole], s.feeds, l...)
		}
		if s.prop.Kind == api.PropWhole {
			verdict(t, -1, s.feeds, scanU(), s.leaf, filter(unsafe()), picked(0, 1), join(lit(yes)))
		}
	}
	verdict(t, -1, nil, scanU())
	verdict(t, -1, nil, scanU(), filter(unsafe()), project(on(api.NNeg, col(0))))
}

// P18.4: distinct rows of what is hashed.
func TestSoundDistinct(t *testing.T) {
	for _, s := range sides() {
		at := map[bool]int{true: 1, false: -1}[s.prop.Kind == api.PropWhole]
		verdict(t, at, s.feeds, s.leaf, distinct())
		if at == 1 {
			verdict(t, 2, s.feeds, scanU(), s.leaf, distinct(), join(lit(yes)))
		}
	}
	verdict(t, 1, nil, scanU(), distinct())
	verdict(t, -1, nil, scanT(), picked(0), distinct())
	verdict(t, 2, nil, scanT(), picked(1), distinct())
	verdict(t, -1, nil, scanV(), distinct())
}

// P18.4: groups of what is hashed by columns that all are among the keys.
func TestSoundGroup(t *testing.T) {
	for _, s := range sides() {
		for _, keys := range [][]int{nil, {0}, {1}, {0, 1}, {1, 0}, {1, 1}, {0, 0, 1}} {
			at := -1
			if s.prop.Kind == api.PropWhole {
				at = 1
			}
			for _, column := range s.prop.Cols {
				if !slices.Contains(keys, column) {
					at = 1
				}
			}
			verdict(t, at, s.feeds, s.leaf, group(keys, agg(api.AggAll), agg(api.AggSum, col(1))))
			verdict(t, at, s.feeds, s.leaf, group(keys, agg(api.AggCount, col(0))), filter(lit(yes)))
		}
	}
	verdict(t, 1, nil, scanU(), group([]int{0}))
	verdict(t, 1, nil, scanU(), group(nil, agg(api.AggAll)))
	verdict(t, -1, nil, scanV(), group([]int{1, 3}))
	verdict(t, -1, nil, scanV(), group([]int{3, 0, 1}))
	for _, keys := range [][]int{{1}, {3}, {0, 2}, {1, 2, 0}, {3, 3, 3}, nil} {
		verdict(t, 1, nil, scanV(), group(keys, agg(api.AggAll)))
	}
}

// P18.4: what is put together is hashed by its keys, or some of them.
func TestSoundFinal(t *testing.T) {
	for _, keys := range []int{0, 1, 2, 3} {
		for _, cols := range [][]int{{0}, {1}, {2}, {3}, {0, 1}, {1, 0}, {2, 0, 1}, {0, 3}, {1, 1}} {
			at := -1
			for _, column := range cols {
				if column >= keys {
					at = 1
				}
			}
			end := final(keys, slices.Repeat([]int{api.AggMax}, 4-keys)...)
			verdict(t, at, []api.Frag{shuffled(cols, scanV())}, input(0, kb, ki, kt, ki), end)
			verdict(t, at, []api.Frag{shuffled(cols, scanV())}, input(0, kb, ki, kt, ki), end, picked(0))
		}
		verdict(t, 1, []api.Frag{cast(scanV())}, input(0, kb, ki, kt, ki), final(keys, slices.Repeat([]int{api.AggMin}, 4-keys)...))
	}
}

// P18.4: unions of what is not whole on either side.
func TestSoundUnion(t *testing.T) {
	for _, a := range sides() {
		for _, b := range sides() {
			at := map[bool]int{true: 2, false: -1}[a.prop.Kind == api.PropWhole || b.prop.Kind == api.PropWhole]
			verdict(t, at, slices.Concat(a.feeds, b.feeds), a.leaf, b.beside(len(a.feeds)), union())
		}
		at := map[bool]int{true: 3, false: -1}[a.prop.Kind == api.PropWhole]
		verdict(t, at, a.feeds, scanU(), picked(0, 0), a.leaf, union())
		verdict(t, at, a.feeds, a.leaf, scanU(), picked(0, 0), union())
	}
	verdict(t, -1, nil, scanU(), scanU(), union())
}

// conds are conditions over two sides of two columns: safe ones, and such as are not.
func conds() []api.Expr {
	return []api.Expr{lit(yes), lit(null), eq(0, 2), both(eq(0, 2), eq(1, 3)), unsafe(), on(api.NLt, col(1), col(3)), on(api.NOr, eq(0, 2), unsafe())}
}

// P18.4: joins whose second side alone is whole, whatever the condition.
func TestSoundJoinOfWhole(t *testing.T) {
	for _, cond := range conds() {
		for _, n := range nodes(join(cond), leftJoin(cond)) {
			for _, a := range sides() {
				feeds, second := append(slices.Clone(a.feeds), cast(scanT())), input(len(a.feeds), ki, ki)
				if a.prop.Kind == api.PropWhole {
					verdict(t, 2, feeds, a.leaf, second, n)
					verdict(t, 2, feeds, a.leaf, second, n, picked(0))
					verdict(t, 3, feeds, scanU(), a.leaf, second, n, join(lit(yes)))
					continue
				}
				verdict(t, -1, feeds, a.leaf, second, n)
				verdict(t, -1, feeds, a.leaf, second, filter(unsafe()), picked(1, 0), n)
			}
			verdict(t, -1, []api.Frag{cast(scanT())}, scanU(), picked(0, 0), input(0, ki, ki), n)
			verdict(t, 3, []api.Frag{cast(scanT())}, input(0, ki, ki), scanU(), picked(0, 0), n) // the first side alone is whole
			verdict(t, 2, []api.Frag{cast(scanT())}, input(0, ki, ki), scanT(), n)
		}
	}
}

// P18.4: joins of what lies anyhow on one side or on both, whatever the condition.
func TestNoSoundJoinOfAnyhow(t *testing.T) {
	for _, cond := range conds() {
		for _, n := range nodes(join(cond), leftJoin(cond)) {
			for _, s := range sides()[2:] {
				verdict(t, 3, s.feeds, scanU(), picked(0, 0), s.leaf, n)
				verdict(t, 3, s.feeds, s.leaf, scanU(), picked(0, 0), n)
			}
			verdict(t, 4, nil, scanU(), picked(0, 0), scanU(), picked(0, 0), n)
		}
	}
}

// P18.4: joins of what is hashed on both sides, by as many columns, each two of which one conjunct holds equal; if all of the condition is safe.
func TestSoundJoinOfHashed(t *testing.T) {
	hold := func(a, b []int, cond api.Expr, want bool) {
		t.Helper()
		for _, n := range nodes(join(cond), leftJoin(cond)) {
			verdict(t, map[bool]int{true: -1, false: 2}[want], []api.Frag{shuffled(a, scanV()), shuffled(b, scanV())}, input(0, kb, ki, kt, ki), input(1, kb, ki, kt, ki), n)
		}
	}
	one, two := []int{1}, []int{1, 3}
	more := on(api.NOr, on(api.NIsNull, col(0)), on(api.NLt, col(2), col(6)))
	hold(one, one, eq(1, 5), true)
	hold(one, one, eq(5, 1), true) // turned about
	hold(one, []int{3}, eq(1, 7), true)
	hold([]int{3}, one, eq(3, 5), true)
	hold(one, one, both(more, eq(1, 5)), true)
	hold(one, one, both(both(more, eq(5, 1)), more), true)
	hold(one, one, eq(1, 7), false) // other columns, and such as stand on one side
	hold(one, one, eq(3, 5), false)
	hold(one, []int{3}, eq(3, 5), false)
	hold(one, one, eq(1, 3), false)
	hold(one, one, eq(5, 7), false)
	hold(one, one, eq(1, 1), false)
	hold(one, one, lit(yes), false)
	hold(one, one, on(api.NOr, eq(1, 5), more), false) // no conjunct
	hold(one, one, on(api.NNot, on(api.NNe, col(1), col(5))), false)
	hold(one, one, on(api.NLe, col(1), col(5)), false)
	hold(one, one, on(api.NEq, col(1), num(5)), false)
	hold(one, one, on(api.NEq, eq(1, 5), lit(yes)), false)
	hold(two, two, both(eq(1, 5), eq(3, 7)), true)
	hold(two, two, both(eq(7, 3), eq(1, 5)), true)
	hold(two, two, both(both(eq(3, 7), more), eq(5, 1)), true)
	hold(two, []int{3, 1}, both(eq(1, 7), eq(3, 5)), true)
	hold(two, two, both(eq(1, 7), eq(3, 5)), false) // of each column another one
	hold(two, two, eq(1, 5), false)                 // all but one
	hold(two, two, eq(3, 7), false)
	hold(two, two, both(eq(1, 5), eq(1, 7)), false)
	hold(two, two, both(eq(1, 5), eq(3, 5)), false)
	hold(two, []int{3, 1}, both(eq(1, 5), eq(3, 7)), false)
	hold(two, one, both(eq(1, 5), eq(3, 7)), false) // not as many
	hold(one, two, both(eq(1, 5), eq(3, 7)), false)
	hold([]int{1, 1}, []int{1, 3}, both(eq(1, 5), eq(1, 7)), true)
	hold([]int{1, 1}, []int{1, 3}, eq(1, 5), false)
	hold([]int{1, 1}, []int{3, 3}, eq(1, 7), true)
	hold([]int{1, 1}, []int{3}, eq(1, 7), false)
	hold([]int{2, 0, 1}, []int{2, 0, 3}, both(both(eq(1, 7), eq(0, 4)), eq(2, 6)), true)
	for _, risk := range []api.Expr{on(api.NEq, on(api.NDiv, num(1), col(1)), num(1)), on(api.NIsNull, on(api.NNeg, col(3))), on(api.NLt, on(api.NAdd, col(1), num(0)), col(5))} {
		hold(one, one, both(eq(1, 5), risk), false)
		hold(one, one, both(risk, eq(1, 5)), false)
		hold(two, two, both(both(eq(1, 5), risk), eq(3, 7)), false)
		hold(one, one, on(api.NOr, risk, eq(1, 5)), false)
	}
	verdict(t, -1, nil, scanV(), picked(1, 3), group([]int{0, 1}), scanV(), join(both(eq(0, 3), eq(1, 5))), picked(1, 0), distinct())
	verdict(t, 4, nil, scanV(), picked(1, 3), group([]int{0, 1}), scanV(), join(both(eq(0, 3), eq(1, 3))), picked(1, 0), distinct())
	verdict(t, -1, []api.Frag{shuffled([]int{0}, scanU())}, scanT(), input(0, ki), join(eq(2, 0)))
	verdict(t, -1, []api.Frag{shuffled([]int{0}, scanU())}, input(0, ki), scanT(), leftJoin(eq(1, 0)))
	verdict(t, 2, []api.Frag{shuffled([]int{0}, scanU())}, input(0, ki), scanT(), leftJoin(eq(0, 2)))
}

// P18.4: a sort AtAll, whose reader sorts again, just so, just above.
func TestSoundSort(t *testing.T) {
	order := []api.Ord{{Col: 1, Desc: true}, {Col: 0}}
	n, in := sortBy(4, order...), input(0, ki, ki)
	feed := onAll(api.WayGather, scanT(), n)
	read := func(place int, l ...api.LNode) {
		t.Helper()
		if p := plan(feed, onOne(api.WayRoot, l...)); place < 0 {
			isSound(t, p)
		} else {
			isNot(t, 0, place, p)
		}
	}
	read(-1, in, n)
	for _, other := range nodes(sortBy(3, order...), sortBy(5, order...), sortBy(-1, order...), sortBy(0, order...), sortBy(4, order[0]), sortBy(4, order[1], order[0]), sortBy(4), sortBy(4, api.Ord{Col: 1}, api.Ord{Col: 0}), sortBy(4, api.Ord{Col: 1, Desc: true}, api.Ord{Col: 0, Desc: true}), sortBy(4, api.Ord{Desc: true}, api.Ord{}), sortBy(4, append(slices.Clone(order), order[1])...), distinct(), filter(lit(yes)), group([]int{0, 1}), picked(0, 1), final(2), partial([]int{0, 1})) {
		read(1, in, other)
	}
	read(1, in)
	read(1, in, filter(lit(yes)), n)
	read(1, in, picked(0, 1), n)
	for _, limit := range []int{-1, 0, 1, api.MaxNumber} {
		feed = onAll(api.WayGather, scanT(), sortBy(limit))
		read(-1, in, sortBy(limit))
		read(1, in, sortBy(limit, order...))
		read(1, in, sortBy(2))
	}
	for _, s := range sides() {
		p := plan(slices.Concat(s.feeds, []api.Frag{onAll(api.WayGather, s.leaf, n), onOne(api.WayRoot, input(len(s.feeds), ki, ki), n)})...)
		if s.prop.Kind == api.PropWhole {
			isNot(t, 1, 1, p)
		} else {
			isSound(t, p)
		}
	}
	for _, f := range []api.Frag{cast(scanT(), n), shuffled([]int{0}, scanT(), n)} {
		isNot(t, 0, 1, plan(f, onAll(api.WayGather, in, n), onOne(api.WayRoot, input(1, ki, ki), n)))
		isNot(t, 0, 1, plan(slices.Concat([]api.Frag{f}, ahead(f.Way, 0, []int{ki, ki}))...))
	}
	two := []api.Frag{onAll(api.WayGather, scanT()), onAll(api.WayGather, scanT(), n)}
	isNot(t, 1, 1, plan(append(two, onOne(api.WayRoot, in, input(1, ki, ki), union(), n))...)) // not just above
	isNot(t, 1, 1, plan(append(two, onOne(api.WayRoot, input(1, ki, ki), in, union(), n))...))
	isNot(t, 1, 1, plan(append(two, onOne(api.WayRoot, input(1, ki, ki), in, join(lit(yes)), n))...))
}

// P18.4: AtOne all is sound but what a partial aggregate may be; a sort there asks nothing of who reads it.
func TestSoundAtOne(t *testing.T) {
	in, n := input(0, ki, ki), sortBy(4)
	feed := onAll(api.WayGather, scanT())
	for _, l := range [][]api.LNode{{in}, {in, filter(unsafe())}, {in, distinct()}, {in, group([]int{1})}, {in, group(nil, agg(api.AggSum, col(0)))}, {in, project(lit(null), col(0))}, {in, n}, {in, final(1, api.AggAll)}, {in, final(0, api.AggMin, api.AggMax), distinct(), n}} {
		isSound(t, plan(feed, onOne(api.WayRoot, l...)))
		kinds := lastOf(must(kindsByRule(steps(l...))))
		for _, f := range []api.Frag{onOne(api.WayGather, l...), onOne(api.WayCast, l...), by(onOne(api.WayShuffle, l...), 0)} {
			isSound(t, plan(append([]api.Frag{feed, f}, ahead(f.Way, 1, kinds)...)...))
		}
	}
	two := []api.Frag{feed, onAll(api.WayGather, scanU())}
	for _, m := range nodes(join(lit(yes)), leftJoin(unsafe()), join(eq(0, 2))) {
		isSound(t, plan(append(two, onOne(api.WayRoot, in, input(1, ki), m))...))
	}
	isSound(t, plan(append(two, onOne(api.WayRoot, in, input(1, ki), picked(0, 0), union(), group(nil, agg(api.AggAll))))...))
}

// P18.4: a partial aggregate, AtAll and AtOne, whose reader puts it together just above: as many keys, the same tags.
func TestSoundPartial(t *testing.T) {
	begin := partial([]int{1, 0}, agg(api.AggAll), agg(api.AggMin, col(0)), agg(api.AggCount, col(1)))
	kinds := []int{ki, ki, ki, ki, ki}
	in := input(0, kinds...)
	end := final(2, api.AggAll, api.AggMin, api.AggCount)
	read := func(sound bool, l ...api.LNode) {
		t.Helper()
		for _, p := range []api.Plan{
			plan(onAll(api.WayGather, scanT(), begin), onOne(api.WayRoot, l...)),
			plan(onAll(api.WayGather, scanT()), onOne(api.WayGather, input(0, ki, ki), begin), onOne(api.WayRoot, l...)),
		} {
			frag := len(p.Frags) - 2
			p.Frags[frag+1].Nodes[0].Table = frag
			if sound {
				isSound(t, p)
			} else {
				isNot(t, frag, 1, p)
			}
		}
	}
	read(true, in, end)
	read(true, in, end, distinct(), sortBy(3))
	for _, other := range nodes(
		final(2, api.AggAll, api.AggMax, api.AggCount), final(2, api.AggCount, api.AggMin, api.AggCount), final(2, api.AggAll, api.AggCount, api.AggMin), final(2, api.AggMin, api.AggAll, api.AggCount), // other tags
		final(1, api.AggMin, api.AggAll, api.AggMin, api.AggCount), final(3, api.AggMin, api.AggCount), final(1, api.AggAll, api.AggMin, api.AggCount, api.AggCount), final(3, api.AggAll, api.AggMin), final(0, api.AggMin, api.AggMin, api.AggAll, api.AggMin, api.AggCount), // fewer keys, more
		distinct(), group([]int{0, 1}, begin.Aggs...), sortBy(-1), filter(lit(yes)), picked(0, 1), // no end
	) {
		read(false, in, other)
	}
	read(false, in)
	read(false, in, distinct(), group([]int{0}))
	sums := partial([]int{1}, agg(api.AggSum, col(0)), agg(api.AggMax, col(0)), agg(api.AggSum, col(1)))
	for _, s := range sides() {
		tags := []int{api.AggSum, api.AggMax, api.AggSum}
		feeds := append(slices.Clone(s.feeds), onAll(api.WayGather, s.leaf, sums))
		p := plan(append(feeds, onOne(api.WayRoot, input(len(s.feeds), ki, ks, ki, ks), final(1, tags...)))...)
		if s.prop.Kind == api.PropWhole {
			isNot(t, 1, 1, p)
		} else {
			isSound(t, p)
		}
		p.Frags[len(s.feeds)].Way, p.Frags[len(s.feeds)].Cols = api.WayShuffle, []int{0}
		p.Frags[len(s.feeds)+1].At, p.Frags[len(s.feeds)+1].Way = api.AtAll, api.WayGather
		p.Frags = append(p.Frags, root(len(s.feeds)+1, ki, ki, ki, ki))
		if s.prop.Kind == api.PropWhole {
			isNot(t, 1, 1, p)
		} else {
			isSound(t, p)
		}
	}
	two := []api.Frag{onAll(api.WayGather, scanT(), begin), onAll(api.WayGather, scanT(), begin)}
	isSound(t, plan(append(two, onOne(api.WayRoot, in, end, input(1, kinds...), end, union()))...))
	isNot(t, 0, 1, plan(append(two, onOne(api.WayRoot, in, input(1, kinds...), end, union()))...)) // the one ahead of it is another's
	isNot(t, 1, 1, plan(append(two, onOne(api.WayRoot, in, end, input(1, kinds...), union()))...))
	isNot(t, 1, 1, plan(onAll(api.WayGather, scanT()), onOne(api.WayRoot, input(0, ki, ki), begin))) // nobody reads it
}

// P18.4: the first fragment that is not sound ahead of a later one, its first node ahead of a later one; no reader's error ahead of its own.
func TestFirstUnsound(t *testing.T) {
	bad := onAll(api.WayGather, scanU(), distinct())
	isNot(t, 0, 1, plan(bad, bad, onOne(api.WayRoot, input(0, ki), input(1, ki), union())))
	isNot(t, 1, 1, plan(onAll(api.WayGather, scanU()), bad, onOne(api.WayRoot, input(0, ki), input(1, ki), union())))
	isNot(t, 0, 1, of(onAll(api.WayGather, scanU(), distinct(), group([]int{0}), distinct())))
	isNot(t, 0, 2, of(onAll(api.WayGather, scanT(), distinct(), group(nil, agg(api.AggAll)), distinct(), group([]int{0}))))
	isNot(t, 0, 3, of(onAll(api.WayGather, scanT(), scanU(), scanU(), join(lit(yes)), join(lit(yes)))))
	isNot(t, 0, 2, of(onAll(api.WayGather, scanT(), scanU(), distinct(), join(lit(yes)))))
	isNot(t, 0, 1, of(onAll(api.WayGather, scanU(), sortBy(-1))))
	isNot(t, 1, 1, of(onAll(api.WayGather, input(0, ki), distinct(), filter(lit(yes))), cast(scanU()))) // ahead of the root, which is whole
	isNot(t, 1, 2, of(onAll(api.WayGather, input(0, ki), filter(lit(yes)), filter(lit(yes))), cast(scanU())))
	isNot(t, 1, 0, of(onAll(api.WayGather, input(0, ki)), cast(scanU())))
	isNot(t, 0, 1, of(onAll(api.WayGather, input(0, ki)), cast(scanU(), distinct())))
	isNot(t, 2, 1, plan(onAll(api.WayGather, scanU()), onOne(api.WayCast, input(0, ki), distinct()), onAll(api.WayGather, input(1, ki), distinct()), root(2, ki)))
}

// P18.4: what Check says goes ahead of whatever is not sound.
func TestCheckAheadOfSound(t *testing.T) {
	bad := onAll(api.WayGather, scanU(), distinct())
	noPlan(t, 1, plan(bad, bad, onOne(api.WayRoot, input(0, ki))))
	noPlan(t, 0, plan(bad))
	noFrag(t, 1, 1, plan(bad, onOne(api.WayRoot, input(0, ki), filter(num(1)))))
	noFrag(t, 1, 0, plan(bad, onOne(api.WayRoot, scanU())))
	says(t, 0, 0, api.ErrCatalog, plan(bad, root(0, ki)), noCatalogs()[2])
	isNot(t, 0, 1, plan(bad, root(0, ki)))
	for _, p := range plans() {
		frag, place, e := soundByRule(p, chapters())
		if f, k, err := prop.Sound(p, chapters()); f != frag || k != place || err != e {
			t.Errorf("%v: %v at %v, %v, not %v at %v, %v", p, err, f, k, e, frag, place)
		}
	}
}

// P18.4: it hangs on the catalog's Keys.
func TestSoundByKeys(t *testing.T) {
	p := of(onAll(api.WayGather, scanV(), group([]int{1, 3})))
	for _, x := range []struct {
		keys  []int
		sound bool
	}{{[]int{1, 3}, true}, {[]int{1}, true}, {[]int{3}, true}, {nil, false}, {[]int{0}, false}, {[]int{0, 1}, false}, {[]int{1, 2, 3}, false}} {
		c := chapters()
		c.Tables[2].Keys = x.keys
		frag, place, e := prop.Sound(p, c)
		if x.sound && (frag != 0 || place != 0 || e != api.OK) || !x.sound && (frag != 0 || place != 1 || e != api.ErrSound) {
			t.Errorf("%v: %v at %v, %v", x.keys, e, frag, place)
		}
	}
}
