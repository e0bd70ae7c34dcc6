package plan

import (
	"slices"

	"bowsprit/api"
)

// planner is a plan that grows while a tree over a catalog is planned.
type planner struct {
	api.Plan
	catalog api.Catalog
}

// asks are what nodes of each Op ask for, of the sides below them: what is planned of the parts whose roots they are.
func (p *planner) asks() map[int]func(n api.LNode, parts [2]side) side {
	return map[int]func(api.LNode, [2]side) side{
		api.LScan:     p.scan,
		api.LJoin:     p.join,
		api.LFilter:   p.filter,
		api.LGroup:    p.group,
		api.LProject:  p.project,
		api.LDistinct: p.distinct,
		api.LUnion:    p.union,
		api.LSort:     p.sort,
	}
}

// planned is the plan of a tree that may be, over a catalog that has its tables; it may be too long. A tree's order has the first part's nodes ahead of the second one's, and so their fragments.
func planned(l api.Logic, c api.Catalog) api.Plan {
	p := planner{catalog: c}
	asks := p.asks()
	var sides []side
	for _, n := range l.Nodes {
		var parts [2]side
		for k, place := range [2]int{n.A, n.B} {
			if place >= 0 {
				parts[k] = sides[place]
			}
		}
		sides = append(sides, asks[n.Op](n, parts))
	}
	p.end(sides[len(sides)-1])
	return p.Plan
}

func (p *planner) end(s side) {
	if s.at == api.AtAll {
		s = p.send(s, api.WayGather)
	}
	p.Frags = append(p.Frags, api.Frag{Nodes: s.nodes, At: s.at, Way: api.WayRoot})
}

// send has a side's fragment done, and goes on with what reads it.
func (p *planner) send(s side, way int, cols ...int) side {
	input := api.LNode{Op: api.LInput, Table: len(p.Frags), Kinds: s.kinds()}
	p.Frags = append(p.Frags, api.Frag{Nodes: s.nodes, At: s.at, Way: way, Cols: cols})
	at := api.AtAll
	if way == api.WayGather {
		at = api.AtOne
	}
	return side{nodes: laid(input), at: at, cols: cols}
}

func (p *planner) scan(n api.LNode, _ [2]side) side {
	return side{nodes: laid(n), at: api.AtAll, cols: p.catalog.Tables[n.Table].Keys}
}

func (p *planner) filter(n api.LNode, parts [2]side) side {
	return over(n, parts[0])
}

func (p *planner) project(n api.LNode, parts [2]side) side {
	s := over(n, parts[0])
	s.cols = moved(s.cols, func(col int) int {
		return slices.IndexFunc(n.Items, func(x api.Expr) bool {
			return len(x.Nodes) == 1 && x.Nodes[0].Tag == api.ECol && x.Nodes[0].Col == col
		})
	})
	return s
}

// group leaves whole what is all at one node, or each of whose groups is.
func (p *planner) group(n api.LNode, parts [2]side) side {
	s := parts[0]
	cols := moved(s.cols, func(col int) int { return slices.Index(n.Keys, col) })
	if s.at == api.AtOne || len(cols) > 0 {
		s = over(n, s)
		s.cols = cols
		return s
	}
	last := final(n)
	n.Op = api.LPartial
	s = over(n, s)
	if len(n.Keys) == 0 {
		return over(last, p.send(s, api.WayGather))
	}
	return over(last, p.send(s, api.WayShuffle, firsts(len(n.Keys))...))
}

// final is what puts together what comes of the LPartial of a group.
func final(group api.LNode) api.LNode {
	n := api.LNode{Op: api.LFinal, Keys: firsts(len(group.Keys))}
	for _, g := range group.Aggs {
		n.Aggs = append(n.Aggs, api.Agg{Tag: g.Tag})
	}
	return n
}

func (p *planner) distinct(n api.LNode, parts [2]side) side {
	s := parts[0]
	if s.at == api.AtAll && len(s.cols) == 0 {
		s = p.send(s, api.WayShuffle, firsts(len(s.kinds()))...)
	}
	return over(n, s)
}

// alike has both sides AtOne, if one is.
func (p *planner) alike(a, b side) (side, side) {
	if a.at == api.AtAll && b.at == api.AtOne {
		a = p.send(a, api.WayGather)
	}
	if b.at == api.AtAll && a.at == api.AtOne {
		b = p.send(b, api.WayGather)
	}
	return a, b
}

func (p *planner) union(n api.LNode, parts [2]side) side {
	a, b := p.alike(parts[0], parts[1])
	s := over(n, a, b)
	if !slices.Equal(a.cols, b.cols) {
		s.cols = nil
	}
	return s
}

func (p *planner) join(n api.LNode, parts [2]side) side {
	a, b := p.alike(parts[0], parts[1])
	if a.at == api.AtAll {
		a, b = p.met(a, b, pairsOf(n.Cond, len(a.kinds())))
	}
	return over(n, a, b)
}

// met are two sides AtAll when each row of the first one is where all those of the second one are that it may be joined with.
func (p *planner) met(a, b side, l pairs) (side, side) {
	rights, lefts := moved(a.cols, l.partner(0)), moved(b.cols, l.partner(1))
	switch {
	case len(l) == 0:
		b = p.send(b, api.WayCast)
	case len(rights) > 0:
		if !slices.Equal(b.cols, rights) {
			b = p.send(b, api.WayShuffle, rights...)
		}
	case len(lefts) > 0:
		a = p.send(a, api.WayShuffle, lefts...)
	default:
		a = p.send(a, api.WayShuffle, l.all(0)...)
		b = p.send(b, api.WayShuffle, l.all(1)...)
	}
	return a, b
}

// sort has each node sort and cut its own, ahead of all being gathered, sorted and cut again.
func (p *planner) sort(n api.LNode, parts [2]side) side {
	s := over(n, parts[0])
	if s.at == api.AtAll {
		n.Order = slices.Clone(n.Order)
		s = over(n, p.send(s, api.WayGather))
	}
	return s
}
