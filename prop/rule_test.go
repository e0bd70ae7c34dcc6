package prop_test

import (
	"slices"

	"bowsprit/api"
	"bowsprit/catalog"
	"bowsprit/expr"
)

// What stands here reckons all that the chapter says, apart from the program: each node from itself down, each fragment and each plan sentence by sentence.

// countByRule is how many nodes stand below the node of a place, in order, and it; 0, if they are in none.
func countByRule(l []api.LNode, place int) int {
	if place < 0 || place >= len(l) {
		return 0
	}
	parts, known := partsByRule[l[place].Op]
	a, b := l[place].A, l[place].B
	switch {
	case known && parts == 0 && a == -1 && b == -1:
		return 1
	case known && parts == 1 && a == place-1 && b == -1:
		if below := countByRule(l, a); below > 0 {
			return below + 1
		}
	case known && parts == 2 && b == place-1:
		right := countByRule(l, b)
		if right > 0 && a == place-1-right {
			if left := countByRule(l, a); left > 0 {
				return left + right + 1
			}
		}
	}
	return 0
}

// bare tells whether of a node no field has anything but those that are named.
func bare(n api.LNode, fields ...string) bool {
	filled := map[string]bool{
		"Table": n.Table != 0, "Kinds": len(n.Kinds) > 0, "Left": n.Left, "Cond": len(n.Cond.Nodes) > 0, "Keys": len(n.Keys) > 0,
		"Aggs": len(n.Aggs) > 0, "Items": len(n.Items) > 0, "Order": len(n.Order) > 0, "Limit": n.Limit != 0,
	}
	for field, is := range filled {
		if is && !slices.Contains(fields, field) {
			return false
		}
	}
	return true
}

// between tells whether all kinds stand from least to most.
func between(kinds []int, least, most int) bool {
	for _, k := range kinds {
		if k < least || k > most {
			return false
		}
	}
	return true
}

func isTruthByRule(cond api.Expr, kinds []int) bool {
	k, e := expr.Kind(cond, kinds)
	return e == api.OK && (k == kn || k == kb)
}

// aggByRule is the kind that an aggregate comes to; -1, if it may not be. Its sum is of that kind.
func aggByRule(a api.Agg, kinds []int, sum int) int {
	if a.Tag == api.AggAll && len(a.Arg.Nodes) == 0 {
		return ki
	}
	k, e := expr.Kind(a.Arg, kinds)
	switch {
	case e != api.OK || a.Tag < api.AggCount || a.Tag > api.AggMax:
		return -1
	case a.Tag == api.AggMin || a.Tag == api.AggMax:
		return k
	case a.Tag == api.AggCount:
		return ki
	case k == ki || k == kn:
		return sum
	}
	return -1
}

func ofGroupByRule(n api.LNode, a []int, sum int) (kinds []int, ok bool) {
	ok = true
	for _, k := range n.Keys {
		if k < 0 || k >= len(a) {
			return nil, false
		}
		kinds = append(kinds, a[k])
	}
	for _, g := range n.Aggs {
		k := aggByRule(g, a, sum)
		ok = ok && k >= 0
		kinds = append(kinds, k)
	}
	return kinds, ok && bare(n, "Keys", "Aggs") && len(n.Keys) <= 3 && len(n.Aggs) <= 12 && len(kinds) > 0
}

// ofFinalByRule are the kinds of an LFinal over columns of kinds.
func ofFinalByRule(n api.LNode, a []int) (kinds []int, ok bool) {
	if !bare(n, "Keys", "Aggs") || len(n.Keys) > 3 || len(n.Aggs) > 12 || len(n.Keys)+len(n.Aggs) != len(a) {
		return nil, false
	}
	for k, kind := range a {
		if k < len(n.Keys) {
			if n.Keys[k] != k || kind == ks {
				return nil, false
			}
			continue
		}
		g := n.Aggs[k-len(n.Keys)]
		fits := map[int][]int{api.AggAll: {ki}, api.AggCount: {ki}, api.AggSum: {ks}, api.AggMin: {kn, kb, ki, kt}, api.AggMax: {kn, kb, ki, kt}}[g.Tag]
		if len(g.Arg.Nodes) > 0 || !slices.Contains(fits, kind) {
			return nil, false
		}
	}
	for _, kind := range a {
		kinds = append(kinds, map[bool]int{true: ki, false: kind}[kind == ks])
	}
	return kinds, true
}

// ofOneByRule are the kinds of a node of one part, without or with more nodes behind it.
func ofOneByRule(n, part api.LNode, a []int, last bool) (kinds []int, ok bool) {
	if n.Op == api.LFinal {
		kinds, ok = ofFinalByRule(n, a)
		return kinds, ok && part.Op == api.LInput
	}
	if slices.Contains(a, ks) {
		return nil, false
	}
	ok = true
	switch n.Op {
	case api.LFilter:
		return a, bare(n, "Cond") && isTruthByRule(n.Cond, a)
	case api.LGroup:
		return ofGroupByRule(n, a, ki)
	case api.LPartial:
		kinds, ok = ofGroupByRule(n, a, ks)
		return kinds, ok && last
	case api.LProject:
		for _, item := range n.Items {
			k, e := expr.Kind(item, a)
			ok = ok && e == api.OK
			kinds = append(kinds, k)
		}
		return kinds, ok && bare(n, "Items") && 1 <= len(kinds) && len(kinds) <= 16
	case api.LSort:
		for _, o := range n.Order {
			ok = ok && 0 <= o.Col && o.Col < len(a)
		}
		return a, ok && bare(n, "Order", "Limit") && len(n.Order) <= 3 && -1 <= n.Limit && n.Limit <= 1<<31-1 && last
	}
	return a, bare(n)
}

// ofTwoByRule are the kinds of a node of two parts.
func ofTwoByRule(n api.LNode, a, b []int) ([]int, bool) {
	both := slices.Concat(a, b)
	if slices.Contains(both, ks) {
		return nil, false
	}
	if n.Op == api.LJoin {
		return both, bare(n, "Left", "Cond") && len(both) <= 16 && isTruthByRule(n.Cond, both)
	}
	if len(a) != len(b) {
		return nil, false
	}
	var kinds []int
	for k := range a {
		if a[k] != b[k] && a[k]*b[k] != 0 {
			return nil, false
		}
		kinds = append(kinds, max(a[k], b[k]))
	}
	return kinds, bare(n)
}

func isLeafByRule(n api.LNode) bool {
	if n.Op == api.LScan {
		return bare(n, "Table", "Kinds") && 0 <= n.Table && n.Table <= 3 && 1 <= len(n.Kinds) && len(n.Kinds) <= 4 && between(n.Kinds, kb, kt)
	}
	return bare(n, "Table", "Kinds") && 0 <= n.Table && n.Table <= 29 && 1 <= len(n.Kinds) && len(n.Kinds) <= 16 && between(n.Kinds, kn, ks)
}

// kindsByRule are the kinds of each node's columns, or the place of the first node with which they may not be.
func kindsByRule(l []api.LNode) (kinds [][]int, place int, ok bool) {
	if len(l) == 0 || len(l) > 60 {
		return nil, 0, false
	}
	for place, n := range l {
		last := place == len(l)-1
		count := countByRule(l, place)
		var own []int
		var may bool
		switch {
		case count == 0 || last && count != len(l):
		case partsByRule[n.Op] == 0:
			own, may = n.Kinds, isLeafByRule(n)
		case partsByRule[n.Op] == 1:
			own, may = ofOneByRule(n, l[n.A], kinds[n.A], last)
		default:
			own, may = ofTwoByRule(n, kinds[n.A], kinds[n.B])
		}
		if !may {
			return nil, place, false
		}
		kinds = append(kinds, own)
	}
	return kinds, 0, true
}

// lastOf is the last one of a list that is not empty.
func lastOf[T any](l []T) T {
	return l[len(l)-1]
}

// fragByRule tells whether a fragment may be, and if not, the place of the node by which it is so, or 0.
func fragByRule(f api.Frag, c api.Catalog) (int, bool) {
	kinds, place, ok := kindsByRule(f.Nodes)
	if !ok {
		return place, false
	}
	ok = (f.At == api.AtAll || f.At == api.AtOne) && slices.Contains([]int{api.WayShuffle, api.WayCast, api.WayGather, api.WayRoot}, f.Way)
	if (f.Way == api.WayShuffle) != (len(f.Cols) > 0) || len(f.Cols) > 16 {
		ok = false
	}
	for _, column := range f.Cols {
		if column < 0 || column >= len(lastOf(kinds)) || lastOf(kinds)[column] == ks {
			ok = false
		}
	}
	for _, n := range f.Nodes {
		if n.Op != api.LScan {
			continue
		}
		if f.At != api.AtAll || n.Table >= len(c.Tables) {
			return 0, false
		}
		var own []int
		for _, column := range c.Tables[n.Table].Columns {
			own = append(own, column.Kind)
		}
		ok = ok && slices.Equal(own, n.Kinds)
	}
	return 0, ok
}

// spot is where a node stands in a plan.
type spot struct {
	frag, place int
}

// inputsByRule are the LInputs of a plan, in order.
func inputsByRule(p api.Plan) []spot {
	var l []spot
	for frag, f := range p.Frags {
		for place, n := range f.Nodes {
			if n.Op == api.LInput {
				l = append(l, spot{frag, place})
			}
		}
	}
	return l
}

// readersByRule are those LInputs that have a number as their Table.
func readersByRule(p api.Plan, frag int) []spot {
	return slices.DeleteFunc(inputsByRule(p), func(s spot) bool { return p.Frags[s.frag].Nodes[s.place].Table != frag })
}

// checkByRule is what Check says.
func checkByRule(p api.Plan, c api.Catalog) (int, int, api.Errno) {
	if catalog.Check(c) != api.OK {
		return 0, 0, api.ErrCatalog
	}
	if len(p.Frags) == 0 || len(p.Frags) > 30 {
		return 0, 0, api.ErrPlan
	}
	roots := map[int][]int{}
	for frag, f := range p.Frags {
		if place, ok := fragByRule(f, c); !ok {
			return frag, place, api.ErrFrag
		}
		kinds, _, _ := kindsByRule(f.Nodes)
		roots[frag] = lastOf(kinds)
	}
	wrong := map[int]bool{}
	for _, s := range inputsByRule(p) {
		n := p.Frags[s.frag].Nodes[s.place]
		if n.Table >= s.frag || !slices.Equal(n.Kinds, roots[n.Table]) {
			wrong[s.frag] = true
		}
	}
	for frag, f := range p.Frags {
		readers := readersByRule(p, frag)
		switch {
		case frag == len(p.Frags)-1:
			wrong[frag] = wrong[frag] || f.Way != api.WayRoot || f.At != api.AtOne || slices.Contains(roots[frag], ks) || len(readers) > 0
		case f.Way == api.WayRoot || len(readers) != 1:
			wrong[frag] = true
		default:
			wrong[frag] = wrong[frag] || (f.Way == api.WayGather) != (p.Frags[readers[0].frag].At == api.AtOne)
		}
	}
	for frag := range p.Frags {
		if wrong[frag] {
			return frag, 0, api.ErrPlan
		}
	}
	return 0, 0, api.OK
}

// The Props that have no columns; hashed has some.
var (
	anyhow = api.Prop{Kind: api.PropAny}
	whole  = api.Prop{Kind: api.PropWhole}
	single = api.Prop{Kind: api.PropOne}
)

func hashed(cols ...int) api.Prop {
	return api.Prop{Kind: api.PropHashed, Cols: cols}
}

// movedByRule is how rows lie that were hashed, when what stands at places of the new columns is a column of before, or -1.
func movedByRule(p api.Prop, now []int) api.Prop {
	if p.Kind != api.PropHashed {
		return p
	}
	var cols []int
	for _, column := range p.Cols {
		if !slices.Contains(now, column) {
			return anyhow
		}
		cols = append(cols, slices.Index(now, column))
	}
	return hashed(cols...)
}

// propByRule is how the rows of the node of a place lie, reckoned from that down.
func propByRule(p api.Plan, c api.Catalog, frag, place int) api.Prop {
	f := p.Frags[frag]
	n := f.Nodes[place]
	if f.At == api.AtOne {
		return single
	}
	switch n.Op {
	case api.LScan:
		if keys := c.Tables[n.Table].Keys; len(keys) > 0 {
			return hashed(keys...)
		}
		return anyhow
	case api.LInput:
		if p.Frags[n.Table].Way == api.WayCast {
			return whole
		}
		return hashed(p.Frags[n.Table].Cols...)
	}
	a := propByRule(p, c, frag, n.A)
	switch n.Op {
	case api.LProject:
		var now []int
		for _, item := range n.Items {
			now = append(now, -1)
			if len(item.Nodes) == 1 && item.Nodes[0].Tag == api.ECol {
				now[len(now)-1] = item.Nodes[0].Col
			}
		}
		return movedByRule(a, now)
	case api.LGroup, api.LPartial, api.LFinal:
		return movedByRule(a, n.Keys)
	case api.LUnion:
		b := propByRule(p, c, frag, n.B)
		if a.Kind == api.PropHashed && b.Kind == api.PropHashed && slices.Equal(a.Cols, b.Cols) {
			return a
		}
		return anyhow
	}
	return a
}

// joinByRule tells whether a join AtAll is sound.
func joinByRule(n api.LNode, a, b api.Prop, left int) bool {
	if a.Kind != api.PropWhole && b.Kind == api.PropWhole {
		return true
	}
	if a.Kind != api.PropHashed || b.Kind != api.PropHashed || len(a.Cols) != len(b.Cols) || !expr.Safe(n.Cond) {
		return false
	}
	pairs := map[[2]int]bool{}
	for _, x := range expr.Ands(n.Cond) {
		if l, r, ok := expr.Pair(x, left); ok {
			pairs[[2]int{l, r}] = true
		}
	}
	for k := range a.Cols {
		if !pairs[[2]int{a.Cols[k], b.Cols[k]}] {
			return false
		}
	}
	return true
}

// aboveByRule is the node that has the fragment's LInput as its first part; one without Op, if there is none.
func aboveByRule(p api.Plan, frag int) api.LNode {
	readers := readersByRule(p, frag)
	if len(readers) == 0 {
		return api.LNode{}
	}
	for _, n := range p.Frags[readers[0].frag].Nodes {
		if partsByRule[n.Op] > 0 && n.A == readers[0].place {
			return n
		}
	}
	return api.LNode{}
}

// endsByRule tells whether an LFinal ends what an LPartial began.
func endsByRule(n, end api.LNode) bool {
	tags := func(n api.LNode) []int {
		var l []int
		for _, g := range n.Aggs {
			l = append(l, g.Tag)
		}
		return l
	}
	return end.Op == api.LFinal && len(n.Keys) == len(end.Keys) && slices.Equal(tags(n), tags(end))
}

// nodeByRule tells whether the node of a place is sound.
func nodeByRule(p api.Plan, c api.Catalog, frag, place int) bool {
	f := p.Frags[frag]
	n, above := f.Nodes[place], aboveByRule(p, frag)
	if n.Op == api.LPartial && !endsByRule(n, above) {
		return false
	}
	if f.At == api.AtOne || n.Op == api.LScan || n.Op == api.LInput || n.Op == api.LFilter || n.Op == api.LProject {
		return true
	}
	a := propByRule(p, c, frag, n.A)
	switch n.Op {
	case api.LPartial:
		return a.Kind != api.PropWhole
	case api.LJoin:
		kinds, _, _ := kindsByRule(f.Nodes)
		return joinByRule(n, a, propByRule(p, c, frag, n.B), len(kinds[n.A]))
	case api.LGroup, api.LFinal:
		for _, column := range a.Cols {
			if !slices.Contains(n.Keys, column) {
				return false
			}
		}
		return a.Kind == api.PropHashed
	case api.LDistinct:
		return a.Kind == api.PropHashed
	case api.LUnion:
		return a.Kind != api.PropWhole && propByRule(p, c, frag, n.B).Kind != api.PropWhole
	}
	return a.Kind != api.PropWhole && f.Way == api.WayGather && above.Op == api.LSort && slices.Equal(above.Order, n.Order) && above.Limit == n.Limit
}

// soundByRule is what Sound says.
func soundByRule(p api.Plan, c api.Catalog) (int, int, api.Errno) {
	if frag, place, e := checkByRule(p, c); e != api.OK {
		return frag, place, e
	}
	for frag, f := range p.Frags {
		for place := range f.Nodes {
			if !nodeByRule(p, c, frag, place) {
				return frag, place, api.ErrSound
			}
		}
		if last := len(f.Nodes) - 1; propByRule(p, c, frag, last).Kind == api.PropWhole {
			return frag, last, api.ErrSound
		}
	}
	return 0, 0, api.OK
}
