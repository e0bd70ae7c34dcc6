package prop

import (
	"iter"
	"slices"

	"bowsprit/api"
	"bowsprit/expr"
)

// lying is a fragment of a plan that may be, and how its nodes' rows lie, as far as they were asked.
type lying struct {
	checker
	api.Frag
	number int
	props  []api.Prop
}

// lies are how rows lie, by the Op of a node AtAll, whose parts' are known.
func lies() map[int]func(lying, api.LNode) api.Prop {
	return map[int]func(lying, api.LNode) api.Prop{
		api.LScan:     lying.scan,
		api.LJoin:     lying.asFirst,
		api.LFilter:   lying.asFirst,
		api.LGroup:    lying.group,
		api.LProject:  lying.project,
		api.LDistinct: lying.asFirst,
		api.LUnion:    lying.union,
		api.LSort:     lying.asFirst,
		api.LInput:    lying.input,
		api.LPartial:  lying.group,
		api.LFinal:    lying.group,
	}
}

// lay asks all nodes of a fragment. Each answer has columns of its own.
func (k checker) lay(frag int) lying {
	l, lies := lying{checker: k, Frag: k.Frags[frag], number: frag}, lies()
	for _, n := range l.Nodes {
		p := api.Prop{Kind: api.PropOne}
		if l.At == api.AtAll {
			p = lies[n.Op](l, n)
		}
		p.Cols = slices.Clone(p.Cols)
		l.props = append(l.props, p)
	}
	return l
}

func (l lying) scan(n api.LNode) api.Prop {
	keys := l.catalog.Tables[n.Table].Keys
	if len(keys) == 0 {
		return api.Prop{Kind: api.PropAny}
	}
	return api.Prop{Kind: api.PropHashed, Cols: keys}
}

func (l lying) input(n api.LNode) api.Prop {
	from := l.Frags[n.Table]
	if from.Way == api.WayCast {
		return api.Prop{Kind: api.PropWhole}
	}
	return api.Prop{Kind: api.PropHashed, Cols: from.Cols}
}

func (l lying) asFirst(n api.LNode) api.Prop {
	return l.props[n.A]
}

// firsts goes over columns, and tells the place that find says of each; below 0: there is none.
func firsts(cols []int, find func(col int) int) iter.Seq[int] {
	return func(yield func(int) bool) {
		for _, col := range cols {
			if !yield(find(col)) {
				return
			}
		}
	}
}

// moved is how rows lie behind a node that has its part's columns at the places that find says.
func (l lying) moved(n api.LNode, find func(col int) int) api.Prop {
	p := l.props[n.A]
	if p.Kind != api.PropHashed {
		return p
	}
	var cols []int
	for place := range firsts(p.Cols, find) {
		if place < 0 {
			return api.Prop{Kind: api.PropAny}
		}
		cols = append(cols, place)
	}
	return api.Prop{Kind: api.PropHashed, Cols: cols}
}

func (l lying) project(n api.LNode) api.Prop {
	return l.moved(n, func(col int) int {
		return slices.IndexFunc(n.Items, func(x api.Expr) bool {
			return len(x.Nodes) == 1 && x.Nodes[0].Tag == api.ECol && x.Nodes[0].Col == col
		})
	})
}

func (l lying) group(n api.LNode) api.Prop {
	return l.moved(n, func(col int) int { return slices.Index(n.Keys, col) })
}

func (l lying) union(n api.LNode) api.Prop {
	a, b := l.props[n.A], l.props[n.B]
	if a.Kind == api.PropHashed && b.Kind == api.PropHashed && slices.Equal(a.Cols, b.Cols) {
		return a
	}
	return api.Prop{Kind: api.PropAny}
}

// isSound tells whether a node is sound.
func (l lying) isSound(n api.LNode) bool {
	if n.Op == api.LPartial && !l.isReadBy(n, isEndOf) {
		return false
	}
	if l.At == api.AtOne || partsOf(n.Op) == 0 {
		return true
	}
	a := l.props[n.A]
	switch n.Op {
	case api.LJoin:
		return l.isSoundJoin(n)
	case api.LGroup, api.LFinal: // what is hashed by some of the keys is hashed behind the group, too
		return l.group(n).Kind == api.PropHashed
	case api.LPartial:
		return a.Kind != api.PropWhole
	case api.LDistinct:
		return a.Kind == api.PropHashed
	case api.LUnion:
		return a.Kind != api.PropWhole && l.props[n.B].Kind != api.PropWhole
	case api.LSort:
		return a.Kind != api.PropWhole && l.Way == api.WayGather && l.isReadBy(n, isSortOf)
	}
	return true
}

// isSoundJoin tells whether each pair of a join AtAll meets at one node, and just there; of pairs that nobody asks nothing may fault.
func (l lying) isSoundJoin(n api.LNode) bool {
	a, b := l.props[n.A], l.props[n.B]
	if b.Kind == api.PropWhole {
		return a.Kind != api.PropWhole
	}
	if a.Kind != api.PropHashed || b.Kind != api.PropHashed || len(a.Cols) != len(b.Cols) || !expr.Safe(n.Cond) {
		return false
	}
	ands, width := expr.Ands(n.Cond), len(l.kinds[l.number][n.A])
	for i, col := range a.Cols {
		holdsEqual := func(x api.Expr) bool {
			left, right, ok := expr.Pair(x, width)
			return ok && left == col && right == b.Cols[i]
		}
		if !slices.ContainsFunc(ands, holdsEqual) {
			return false
		}
	}
	return true
}

// isReadBy tells whether the LInput that reads the fragment stands just below a node that ends what this one begins.
func (l lying) isReadBy(n api.LNode, ends func(n, last api.LNode) bool) bool {
	for reader, place := range readers(l.Plan, l.number) {
		nodes := l.Frags[reader].Nodes
		above := place + 1
		return above < len(nodes) && nodes[above].A == place && ends(n, nodes[above])
	}
	return false
}

// isEndOf tells of a node whether it is the LFinal of an LPartial.
func isEndOf(n, last api.LNode) bool {
	isLike := func(g, end api.Agg) bool { return g.Tag == end.Tag }
	return last.Op == api.LFinal && len(last.Keys) == len(n.Keys) && slices.EqualFunc(n.Aggs, last.Aggs, isLike)
}

// isSortOf tells of a node whether it is the same LSort as another one.
func isSortOf(n, last api.LNode) bool {
	return last.Op == api.LSort && last.Limit == n.Limit && slices.Equal(last.Order, n.Order)
}

// unsound is the number of the first fragment that is not sound, and the place of its first node that is not; of its root, if just all rows come of that at each node.
func (k checker) unsound() (frag, place int, found bool) {
search:
	for number := range k.Frags {
		l := k.lay(number)
		for at, n := range l.Nodes {
			isRoot := at == len(l.Nodes)-1
			if !l.isSound(n) || isRoot && l.props[at].Kind == api.PropWhole {
				frag, place, found = number, at, true
				break search
			}
		}
	}
	return frag, place, found
}
