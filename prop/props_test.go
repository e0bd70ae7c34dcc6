package prop_test

import (
	"slices"
	"testing"

	"bowsprit/api"
	"bowsprit/prop"
)

// cast and shuffled are fragments AtAll whose rows go on so.
func cast(l ...api.LNode) api.Frag {
	return onAll(api.WayCast, l...)
}

func shuffled(cols []int, l ...api.LNode) api.Frag {
	return by(onAll(api.WayShuffle, l...), cols...)
}

// of is the plan of a fragment, with those that it reads ahead of it, and its rows gathered behind it.
func of(f api.Frag, feeds ...api.Frag) api.Plan {
	return gathered(lastOf(must(kindsByRule(f.Nodes))), append(slices.Clone(feeds), f)...)
}

// lies holds how rows lie in a fragment AtAll of those nodes, which reads feeds.
func lies(t *testing.T, feeds []api.Frag, l []api.LNode, want ...api.Prop) {
	t.Helper()
	lie(t, of(onAll(api.WayGather, l...), feeds...), len(feeds), want...)
}

// nodes is a list of nodes.
func nodes(l ...api.LNode) []api.LNode {
	return l
}

// P18.3: the chapter's examples.
func TestPropsOfExamples(t *testing.T) {
	lies(t, nil, nodes(scanT(), picked(1, 0)), hashed(0), hashed(1))
	lies(t, nil, nodes(scanT(), group([]int{1, 0})), hashed(0), hashed(1))
	lies(t, nil, nodes(scanT(), group([]int{1})), hashed(0), anyhow)
	lies(t, []api.Frag{cast(scanU())}, nodes(scanT(), input(0, ki), join(eq(0, 2))), hashed(0), whole, hashed(0))
}

// P18.3: scans lie by the Keys of their tables, inputs as the fragment that they read sends them on.
func TestLeaves(t *testing.T) {
	lies(t, nil, nodes(scanT()), hashed(0))
	lies(t, nil, nodes(scanU()), anyhow)
	lies(t, nil, nodes(scanV()), hashed(1, 3))
	lies(t, nil, nodes(scanW()), anyhow)
	lies(t, nil, nodes(scanU(), scanT(), join(lit(yes)), scanV(), join(lit(yes))), anyhow, hashed(0), anyhow, hashed(1, 3), anyhow)
	for _, cols := range [][]int{{0}, {1}, {2}, {3}, {3, 1}, {1, 3}, {2, 2}, {0, 1, 2, 3}, {3, 2, 1, 0}, slices.Repeat([]int{1, 2}, 8)} {
		for _, n := range nodes(input(0, kb, ki, kt, ki), scanV()) {
			feed := shuffled(cols, scanV())
			if n.Op == api.LScan {
				lies(t, []api.Frag{feed}, nodes(n, input(0, kb, ki, kt, ki), union()), hashed(1, 3), hashed(cols...), map[bool]api.Prop{true: hashed(1, 3), false: anyhow}[slices.Equal(cols, []int{1, 3})])
			} else {
				lies(t, []api.Frag{feed}, nodes(n), hashed(cols...))
			}
		}
	}
	for _, n := range nodes(scanT(), scanU(), scanV()) {
		lies(t, []api.Frag{cast(n)}, nodes(input(0, n.Kinds...)), whole)
	}
	two := []api.Frag{cast(scanU()), shuffled([]int{1}, scanT()), shuffled([]int{0}, scanT()), cast(scanU())}
	lies(t, two, nodes(input(2, ki, ki), input(0, ki), join(lit(yes)), input(3, ki), input(1, ki, ki), join(lit(yes)), union()), hashed(0), whole, hashed(0), whole, hashed(1), whole, anyhow)
	one := plan(onAll(api.WayGather, scanU()), by(onOne(api.WayShuffle, input(0, ki)), 0, 0), onAll(api.WayGather, input(1, ki)), root(2, ki))
	lie(t, one, 2, hashed(0, 0))
	one.Frags[1].Way, one.Frags[1].Cols = api.WayCast, nil
	lie(t, one, 2, whole)
}

// P18.3: a key lies by its column's place in the table, whatever tables there are.
func TestKeysOfTables(t *testing.T) {
	for _, keys := range [][]int{nil, {}, {0}, {1}, {2}, {3}, {0, 1}, {0, 3}, {1, 2, 3}, {0, 1, 2, 3}} {
		c := chapters()
		c.Tables[2].Keys = keys
		p := of(onAll(api.WayGather, scanT(), scanV(), join(lit(yes))))
		want := []api.Prop{hashed(0), hashed(keys...), hashed(0)}
		if len(keys) == 0 {
			want[1] = anyhow
		}
		if got, e := prop.Props(p, c, 0); e != api.OK || !same(got, want) {
			t.Errorf("%v: %v, %v", keys, got, e)
		}
	}
}

// P18.3: AtOne all rows of each Op are at the coordinator's.
func TestPropsAtOne(t *testing.T) {
	lists, kinds := eachOp()
	in := []int{kn, kb, ki, kt}
	for k, l := range lists {
		if slices.ContainsFunc(l, func(n api.LNode) bool { return n.Op == api.LScan || n.Op == api.LInput && !slices.Equal(n.Kinds, in) }) {
			continue
		}
		l = slices.Clone(l)
		var feeds []api.Frag
		for place := range l {
			if l[place].Op == api.LInput {
				l[place].Table = len(feeds)
				feeds = append(feeds, onAll(api.WayGather, scanU(), filled(in...)))
			}
		}
		p := plan(append(feeds, onOne(api.WayGather, l...), root(len(feeds), kinds[k]...))...)
		lie(t, p, len(feeds), slices.Repeat([]api.Prop{single}, len(l))...)
	}
	sums := []api.Frag{onAll(api.WayGather, scanT(), partial([]int{1}, agg(api.AggSum, col(0)))), onAll(api.WayGather, scanT())}
	p := plan(append(sums, onOne(api.WayRoot, input(0, ki, ks), final(1, api.AggSum), input(1, ki, ki), union(), distinct(), group([]int{0}), sortBy(1)))...)
	lie(t, p, 2, slices.Repeat([]api.Prop{single}, 7)...)
	lie(t, p, 0, hashed(0), anyhow)
	lie(t, p, 1, hashed(0))
}

// side is a leaf of VInt, VInt, the fragments that it reads, and how its rows lie.
type side struct {
	leaf  api.LNode
	feeds []api.Frag
	prop  api.Prop
}

// sides are leaves that lie in each way but anyhow, hashed by one column and by several.
func sides() []side {
	l := []side{{scanT(), nil, hashed(0)}, {input(0, ki, ki), []api.Frag{cast(scanT())}, whole}}
	for _, cols := range [][]int{{0}, {1}, {0, 1}, {1, 0}, {1, 1}} {
		l = append(l, side{input(0, ki, ki), []api.Frag{shuffled(cols, scanT())}, hashed(cols...)})
	}
	return l
}

// beside is a side that reads its own fragments when as many others stand ahead of these.
func (s side) beside(feeds int) api.LNode {
	if s.leaf.Op == api.LInput {
		s.leaf.Table += feeds
	}
	return s.leaf
}

// P18.3: filters, distinct rows, sorts lie as their part.
func TestAsPart(t *testing.T) {
	for _, s := range sides() {
		for _, n := range nodes(filter(eq(0, 1)), distinct(), sortBy(-1), sortBy(3, api.Ord{Col: 1})) {
			lies(t, s.feeds, nodes(s.leaf, n), s.prop, s.prop)
		}
		lies(t, s.feeds, nodes(s.leaf, filter(lit(null)), distinct(), filter(eq(1, 0)), sortBy(0)), s.prop, s.prop, s.prop, s.prop, s.prop)
	}
	for _, n := range nodes(filter(lit(yes)), distinct(), sortBy(-1)) {
		lies(t, nil, nodes(scanU(), n), anyhow, anyhow)
		lies(t, nil, nodes(scanV(), n), hashed(1, 3), hashed(1, 3))
	}
}

// P18.3: joins lie as their first part, whatever the second one, and the condition.
func TestJoinLies(t *testing.T) {
	for _, a := range sides() {
		for _, b := range sides() {
			right := b.beside(len(a.feeds))
			for _, n := range nodes(join(lit(yes)), leftJoin(eq(0, 2)), join(eq(1, 3))) {
				lies(t, slices.Concat(a.feeds, b.feeds), nodes(a.leaf, right, n), a.prop, b.prop, a.prop)
			}
		}
		lies(t, a.feeds, nodes(scanU(), a.leaf, join(lit(yes))), anyhow, a.prop, anyhow)
		lies(t, a.feeds, nodes(a.leaf, scanU(), join(lit(yes))), a.prop, anyhow, a.prop)
	}
}

// P18.3: a projection keeps the columns of the hash where the first items are just these: all, some, none, one of them twice, turned about; an item that is more than a column is none.
func TestProjectLies(t *testing.T) {
	for _, x := range []struct {
		items []api.Expr
		want  api.Prop // over a hash of 1 and 3
	}{
		{[]api.Expr{col(0), col(1), col(2), col(3)}, hashed(1, 3)},
		{[]api.Expr{col(1), col(3)}, hashed(0, 1)},
		{[]api.Expr{col(3), col(1)}, hashed(1, 0)},
		{[]api.Expr{col(3), col(2), col(1), col(1), col(3)}, hashed(2, 0)},
		{[]api.Expr{col(1), col(1), col(3), col(3)}, hashed(0, 2)},
		{[]api.Expr{col(2), lit(null), col(3), num(1), col(1)}, hashed(4, 2)},
		{[]api.Expr{col(1)}, anyhow},
		{[]api.Expr{col(3)}, anyhow},
		{[]api.Expr{col(0), col(2)}, anyhow},
		{[]api.Expr{num(1), num(3)}, anyhow},
		{[]api.Expr{lit(null)}, anyhow},
		{[]api.Expr{on(api.NNeg, col(1)), col(3)}, anyhow},
		{[]api.Expr{col(1), on(api.NAdd, col(3), num(0))}, anyhow},
		{[]api.Expr{on(api.NMul, col(1), num(1)), col(3), col(1)}, hashed(2, 1)},
		{[]api.Expr{on(api.NSub, num(0), col(3)), eq(1, 3), col(1), col(3)}, hashed(2, 3)},
		{[]api.Expr{on(api.NIsNull, col(1)), on(api.NIsNull, col(3))}, anyhow},
		{append(slices.Repeat([]api.Expr{num(7)}, 14), col(3), col(1)), hashed(15, 14)},
	} {
		lies(t, nil, nodes(scanV(), project(x.items...)), hashed(1, 3), x.want)
		lies(t, nil, nodes(scanV(), distinct(), project(x.items...), filter(lit(yes))), hashed(1, 3), hashed(1, 3), x.want, x.want)
		lies(t, []api.Frag{cast(scanV())}, nodes(input(0, kb, ki, kt, ki), project(x.items...)), whole, whole)
	}
	lies(t, nil, nodes(scanW(), picked(1, 0)), anyhow, anyhow)
	for _, x := range []struct {
		cols, items []int
		want        api.Prop
	}{
		{[]int{2, 2}, []int{0, 2, 2}, hashed(1, 1)}, {[]int{2, 2}, []int{0, 1}, anyhow}, {[]int{3, 0, 2}, []int{2, 1, 0, 3}, hashed(3, 2, 0)}, {[]int{3, 0, 2}, []int{2, 0}, anyhow},
		{[]int{0, 1, 0}, []int{1, 0}, hashed(1, 0, 1)}, {[]int{0}, []int{1, 2, 3, 0, 0}, hashed(3)}, {[]int{1, 2}, []int{2, 3}, anyhow}, {[]int{1, 2}, []int{1, 3}, anyhow},
	} {
		lies(t, []api.Frag{shuffled(x.cols, scanV())}, nodes(input(0, kb, ki, kt, ki), picked(x.items...)), hashed(x.cols...), x.want)
	}
	lies(t, nil, nodes(scanT(), picked(1, 0), picked(1, 0), picked(1, 1)), hashed(0), hashed(1), hashed(0), anyhow)
}

// P18.3: groups keep the columns of the hash that are among their keys, where these stand first; partial ones, and such as are put together, too.
func TestGroupLies(t *testing.T) {
	kinds := []int{kb, ki, kt, ki}
	for _, x := range []struct {
		keys, cols []int
		want       api.Prop
	}{
		{[]int{1, 3}, []int{1, 3}, hashed(0, 1)}, {[]int{3, 1}, []int{1, 3}, hashed(1, 0)}, {[]int{0, 3, 1}, []int{1, 3}, hashed(2, 1)}, {[]int{3, 3, 1}, []int{1, 3}, hashed(2, 0)}, {[]int{1, 3, 1}, []int{1, 3}, hashed(0, 1)},
		{[]int{1}, []int{1, 3}, anyhow}, {[]int{3}, []int{1, 3}, anyhow}, {[]int{0, 2}, []int{1, 3}, anyhow}, {nil, []int{1, 3}, anyhow}, {[]int{1, 2, 0}, []int{1, 3}, anyhow},
		{[]int{2}, []int{2, 2}, hashed(0, 0)}, {[]int{1, 2}, []int{2}, hashed(1)}, {nil, []int{0}, anyhow}, {[]int{2, 0, 1}, []int{1, 0, 2}, hashed(2, 1, 0)},
	} {
		for _, n := range nodes(group(x.keys, agg(api.AggAll), agg(api.AggMin, col(1))), partial(x.keys, agg(api.AggAll), agg(api.AggMax, col(3)))) {
			in := input(0, kinds...)
			lies(t, []api.Frag{shuffled(x.cols, scanV())}, nodes(in, n), hashed(x.cols...), x.want)
			lies(t, []api.Frag{cast(scanV())}, nodes(in, n), whole, whole)
			lies(t, nil, nodes(scanU(), scanV(), join(lit(yes)), picked(1, 2, 3, 4), n), anyhow, hashed(1, 3), anyhow, anyhow, anyhow)
		}
	}
	for _, x := range []struct {
		keys int
		cols []int
		want api.Prop
	}{
		{1, []int{0}, hashed(0)}, {2, []int{0}, hashed(0)}, {2, []int{1, 0}, hashed(1, 0)}, {3, []int{2, 2}, hashed(2, 2)}, {3, []int{0, 1, 2}, hashed(0, 1, 2)}, {0, []int{0}, anyhow}, {1, []int{1}, anyhow}, {1, []int{0, 1}, anyhow}, {2, []int{2}, anyhow}, {2, []int{1, 2}, anyhow},
	} {
		tags := slices.Repeat([]int{api.AggMin}, 4-x.keys)
		lies(t, []api.Frag{shuffled(x.cols, scanV())}, nodes(input(0, kinds...), final(x.keys, tags...)), hashed(x.cols...), x.want)
		lies(t, []api.Frag{cast(scanV())}, nodes(input(0, kinds...), final(x.keys, tags...)), whole, whole)
	}
}

// P18.3: unions lie by a hash if both do, by the same columns in the same order.
func TestUnionLies(t *testing.T) {
	for _, a := range sides() {
		for _, b := range sides() {
			right := b.beside(len(a.feeds))
			want := anyhow
			if a.prop.Kind == api.PropHashed && same(a.prop, b.prop) {
				want = a.prop
			}
			lies(t, slices.Concat(a.feeds, b.feeds), nodes(a.leaf, right, union()), a.prop, b.prop, want)
		}
		width := picked(0, 0)
		lies(t, a.feeds, nodes(scanU(), width, a.leaf, union()), anyhow, anyhow, a.prop, anyhow)
		lies(t, a.feeds, nodes(a.leaf, scanU(), width, union()), a.prop, anyhow, anyhow, anyhow)
	}
	lies(t, nil, nodes(scanT(), scanT(), union(), scanT(), picked(1, 0), union()), hashed(0), hashed(0), hashed(0), hashed(0), hashed(1), anyhow)
	lies(t, nil, nodes(scanT(), picked(1, 0), scanT(), picked(0, 0), picked(1, 1), union()), hashed(0), hashed(1), hashed(0), hashed(0), anyhow, anyhow)
}

// P18.3: of no such fragment ErrArg, behind whatever Check says.
func TestPropsOfNoFrag(t *testing.T) {
	for _, p := range plans() {
		for _, frag := range nowhere(len(p.Frags)) {
			if got, e := prop.Props(p, chapters(), frag); e != api.ErrArg || len(got) != 0 {
				t.Errorf("%v of %v: %v, %v", frag, p, got, e)
			}
			if got, e := prop.Props(p, noCatalogs()[0], frag); e != api.ErrCatalog || len(got) != 0 {
				t.Errorf("%v of %v: %v, %v", frag, p, got, e)
			}
			if got, e := prop.Props(plan(p.Frags[:len(p.Frags)-1]...), chapters(), frag); e != api.ErrPlan || len(got) != 0 {
				t.Errorf("%v of %v: %v, %v", frag, p, got, e)
			}
			if got, e := prop.Props(plan(append(p.Frags[:1:1], api.Frag{})...), chapters(), frag); e != api.ErrFrag || len(got) != 0 {
				t.Errorf("%v of %v: %v, %v", frag, p, got, e)
			}
		}
		for frag, f := range p.Frags {
			var want []api.Prop
			for place := range f.Nodes {
				want = append(want, propByRule(p, chapters(), frag, place))
			}
			lie(t, p, frag, want...)
		}
	}
}
