package plan_test

import (
	"slices"
	"testing"

	"bowsprit/api"
	"bowsprit/expr"
	"bowsprit/prop"
)

// What stands here reckons plans apart from the program: each side has its own fragments, counted from 0 on, till it comes to stand beside another one.

// side is a tree, and what is planned of it: the fragments that were sent on, the nodes of the one that is under way, where it runs, by which columns its rows are hashed. Nodes have no places, till steps gives them.
type side struct {
	tree  []api.LNode
	frags []api.Frag
	nodes []api.LNode
	at    int
	cols  []int
}

// kinds are those of the columns of what is under way.
func (s side) kinds() []int {
	kinds, _, e := prop.Kinds(steps(s.nodes...))
	if e != api.OK {
		panic(e)
	}
	return kinds[len(kinds)-1]
}

// sent is a side that was sent on.
func (s side) sent(way int, cols ...int) side {
	f := api.Frag{Nodes: steps(s.nodes...), At: s.at, Way: way, Cols: cols}
	in := side{tree: s.tree, nodes: nodes(input(len(s.frags), s.kinds()...)), at: api.AtAll, cols: cols}
	if way == api.WayGather {
		in.at = api.AtOne
	}
	in.frags = append(slices.Clone(s.frags), f)
	return in
}

// onto is a side with one more node under way, hashed by columns.
func (s side) onto(n api.LNode, cols ...int) side {
	s.nodes = append(slices.Clone(s.nodes), n)
	s.cols = cols
	return s
}

// told is a side of a tree with one more node.
func (s side) told(n api.LNode) side {
	s.tree = append(slices.Clone(s.tree), n)
	return s
}

// under is a side over which a node of the tree stands, hashed by columns.
func (s side) under(n api.LNode, cols ...int) side {
	return s.onto(n, cols...).told(n)
}

// ended is the plan at the end.
func (s side) ended() api.Plan {
	if s.at == api.AtAll {
		s = s.sent(api.WayGather)
	}
	return planOf(append(slices.Clone(s.frags), root(s.nodes...))...)
}

// later are nodes that read fragments which are by so many later.
func later(l []api.LNode, by int) []api.LNode {
	l = slices.Clone(l)
	for k := range l {
		if l[k].Op == api.LInput {
			l[k].Table += by
		}
	}
	return l
}

// beside are two sides, the second one's fragments behind the first one's, in one list that the first one has.
func beside(a, b side) (side, side) {
	by := len(a.frags)
	a.frags = slices.Clone(a.frags)
	for _, f := range b.frags {
		f.Nodes = later(f.Nodes, by)
		a.frags = append(a.frags, f)
	}
	b.nodes, b.frags = later(b.nodes, by), nil
	return a, b
}

// sentBeside is the second one of two sides, sent on behind the first one's fragments.
func sentBeside(a, b side, way int, cols ...int) (side, side) {
	b.frags = a.frags
	b = b.sent(way, cols...)
	a.frags, b.frags = b.frags, nil
	return a, b
}

// both is what stands over two sides that are beside each other.
func both(n api.LNode, a, b side, cols ...int) side {
	a.tree = slices.Concat(a.tree, b.tree)
	a.nodes = slices.Concat(a.nodes, b.nodes)
	return a.under(n, cols...)
}

// itemsByRule are the columns that items are, -1 of each that is none alone.
func itemsByRule(n api.LNode) (l []int) {
	for _, x := range n.Items {
		c := -1
		if len(x.Nodes) == 1 && x.Nodes[0].Tag == api.ECol {
			c = x.Nodes[0].Col
		}
		l = append(l, c)
	}
	return l
}

// nowByRule are the first places of columns among those that there are now; false, if one is not there, or there is none.
func nowByRule(cols, now []int) (places []int, ok bool) {
	for _, c := range cols {
		if !slices.Contains(now, c) {
			return nil, false
		}
		places = append(places, slices.Index(now, c))
	}
	return places, len(places) > 0
}

func groupByRule(n api.LNode, s side) side {
	if s.at == api.AtOne {
		return s.under(n)
	}
	if places, ok := nowByRule(s.cols, n.Keys); ok {
		return s.under(n, places...)
	}
	end := final(len(n.Keys))
	for _, g := range n.Aggs {
		end.Aggs = append(end.Aggs, api.Agg{Tag: g.Tag})
	}
	part := s.onto(partial(n.Keys, n.Aggs...))
	if len(n.Keys) == 0 {
		return part.sent(api.WayGather).onto(end).told(n)
	}
	cols := numbers(0, len(n.Keys)-1)
	return part.sent(api.WayShuffle, cols...).onto(end, cols...).told(n)
}

// overOne is what becomes of a node over a side.
func overOne(n api.LNode, s side) side {
	switch n.Op {
	case api.LProject:
		places, _ := nowByRule(s.cols, itemsByRule(n))
		return s.under(n, places...)
	case api.LGroup:
		return groupByRule(n, s)
	case api.LDistinct:
		if s.at == api.AtAll && len(s.cols) == 0 {
			s = s.sent(api.WayShuffle, numbers(0, len(s.kinds())-1)...)
		}
	case api.LSort:
		if s.at == api.AtAll {
			s = s.onto(n).sent(api.WayGather)
		}
	}
	return s.under(n, s.cols...)
}

// pairsByRule are the left columns of a condition's pairs, and the right ones.
func pairsByRule(cond api.Expr, width int) (lefts, rights []int) {
	safe := true
	for _, x := range expr.Ands(cond) {
		safe = safe && expr.Safe(x)
		if l, r, ok := expr.Pair(x, width); ok {
			lefts, rights = append(lefts, l), append(rights, r)
		}
	}
	if !safe {
		return nil, nil
	}
	most := min(len(lefts), 16)
	return lefts[:most], rights[:most]
}

// partnersByRule are those columns of others that stand where columns stand first; false, if one stands nowhere, or there is none.
func partnersByRule(cols, own, others []int) (partners []int, ok bool) {
	places, ok := nowByRule(cols, own)
	for _, place := range places {
		partners = append(partners, others[place])
	}
	return partners, ok
}

func joinByRule(n api.LNode, a, b side) side {
	lefts, rights := pairsByRule(n.Cond, len(a.kinds()))
	toRight, byLeft := partnersByRule(a.cols, lefts, rights)
	toLeft, byRight := partnersByRule(b.cols, rights, lefts)
	switch {
	case len(lefts) == 0:
		a, b = sentBeside(a, b, api.WayCast)
	case byLeft && slices.Equal(toRight, b.cols):
	case byLeft:
		a, b = sentBeside(a, b, api.WayShuffle, toRight...)
	case byRight:
		a = a.sent(api.WayShuffle, toLeft...)
	default:
		a = a.sent(api.WayShuffle, lefts...)
		a, b = sentBeside(a, b, api.WayShuffle, rights...)
	}
	return both(n, a, b, a.cols...)
}

// overTwo is what becomes of a node over two sides.
func overTwo(n api.LNode, a, b side) side {
	a, b = beside(a, b)
	if a.at != b.at && a.at == api.AtAll {
		a = a.sent(api.WayGather)
	} else if a.at != b.at {
		a, b = sentBeside(a, b, api.WayGather)
	}
	switch {
	case a.at == api.AtAll && n.Op == api.LJoin:
		return joinByRule(n, a, b)
	case slices.Equal(a.cols, b.cols):
		return both(n, a, b, a.cols...)
	}
	return both(n, a, b)
}

// scanned is the side of a scan.
func scanned(n api.LNode, c api.Catalog) side {
	return side{tree: nodes(n), nodes: nodes(n), at: api.AtAll, cols: c.Tables[n.Table].Keys}
}

// planByRule is what is planned of a tree, from its root down.
func planByRule(l api.Logic, c api.Catalog) side {
	var at func(place int) side
	at = func(place int) side {
		n := l.Nodes[place]
		switch partsByRule[n.Op] {
		case 0:
			return scanned(n, c)
		case 1:
			return overOne(n, at(n.A))
		}
		return overTwo(n, at(n.A), at(n.B))
	}
	return at(len(l.Nodes) - 1)
}

// probes are operators over two columns of VInt or more, which tell by which columns a side is hashed: what each one asks hangs on that.
func probes(width int) (l []api.LNode) {
	l = append(l, distinct(), group(nil, agg(api.AggAll)), sortBy(2))
	for c := range width {
		l = append(l, group([]int{c}, agg(api.AggAll)), picked(c), group([]int{c, (c + 1) % width}))
	}
	return l
}

// comes holds that Plan makes of a side's tree what is planned there, and tells by what it makes of more by which columns it is hashed.
func comes(t *testing.T, s side) {
	t.Helper()
	isPlanned(t, tree(s.tree...), chapters(), s.ended())
	if s.tree[len(s.tree)-1].Op == api.LSort {
		return
	}
	width := len(s.kinds())
	for _, n := range probes(width) {
		isPlanned(t, tree(append(slices.Clone(s.tree), n)...), chapters(), overOne(n, s).ended())
	}
	if width > 12 {
		return
	}
	l := []api.Expr{lit(yes)} // each column that w has held equal to w's of the same place: what w is shuffled by says by which columns, and in which order
	for c := range min(width, 4) {
		l = append(l, eq(c, width+c))
	}
	n := join(all(l[0], l[1:]...))
	other := scanned(scanW(), chapters())
	isPlanned(t, tree(slices.Concat(s.tree, other.tree, nodes(n))...), chapters(), overTwo(n, s, other).ended())
}
