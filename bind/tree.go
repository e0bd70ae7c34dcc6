package bind

import (
	"slices"

	"bowsprit/api"
	"bowsprit/expr"
)

// tree binds a tree, and tells its kind: over the columns of the group, or over those of the sources, where no aggregate may be. What stands below an aggregate is over the sources again, so that no other one may be there either.
func (s *selecting) tree(t api.Tree, grouped bool) (api.Expr, int, api.Errno) {
	var bind func(place int, grouped bool) (api.Expr, int, api.Errno)
	bind = func(place int, grouped bool) (api.Expr, int, api.Errno) {
		n := t.Nodes[place]
		var parts []api.Expr
		for _, part := range [...]int{n.L, n.R} {
			if part < 0 {
				continue
			}
			x, _, e := bind(part, grouped && aggregateOf(n.Tag) == 0)
			if e != api.OK {
				return api.Expr{}, 0, e
			}
			parts = append(parts, x)
		}
		x, e := s.node(n, grouped, parts)
		if e != api.OK {
			return api.Expr{}, 0, e
		}
		kind, e := expr.Kind(x, s.over(grouped))
		return x, kind, e
	}
	return bind(len(t.Nodes)-1, grouped)
}

// over are the kinds of the columns of the group, or of the sources.
func (s *selecting) over(grouped bool) []int {
	if grouped {
		return s.ofGroup
	}
	return s.kinds
}

// node is a node over its parts, which are bound; not yet asked whether it has a kind.
func (s *selecting) node(n api.Node, grouped bool, parts []api.Expr) (api.Expr, api.Errno) {
	if tag := aggregateOf(n.Tag); tag != 0 {
		return ofColumn(s.aggregate(tag, grouped, parts))
	}
	switch {
	case n.Tag == api.NName:
		return ofColumn(s.name(api.Name{Table: n.Table, Name: n.Name}, grouped))
	case len(parts) == 0:
		return expr.Leaf(api.ENode{Tag: n.Tag, Value: n.Value})
	case len(parts) == 1:
		return expr.One(n.Tag, parts[0])
	}
	return expr.Two(n.Tag, parts[0], parts[1])
}

// ofColumn is the expression of a column alone, if there is one.
func ofColumn(column int, e api.Errno) (api.Expr, api.Errno) {
	if e != api.OK {
		return api.Expr{}, e
	}
	return expr.Leaf(api.ENode{Tag: api.ECol, Col: column})
}

// name is the column that a name names, or the first of the group's that is that one.
func (s *selecting) name(n api.Name, grouped bool) (int, api.Errno) {
	column, e := s.names.column(n)
	if e != api.OK || !grouped {
		return column, e
	}
	key := slices.Index(s.bound.Keys, column)
	if key < 0 {
		return 0, api.ErrGroup
	}
	return key, api.OK
}

// aggregate is an aggregate's column of the group. One that is not there yet is laid behind all others.
func (s *selecting) aggregate(tag int, grouped bool, parts []api.Expr) (int, api.Errno) {
	if !grouped {
		return 0, api.ErrAgg
	}
	a := api.Agg{Tag: tag}
	for _, arg := range parts {
		a.Arg = arg
	}
	kind, e := s.aggregateKind(a)
	if e != api.OK {
		return 0, e
	}
	place := slices.IndexFunc(s.bound.Aggs, func(b api.Agg) bool { return sameAgg(a, b) })
	if place < 0 {
		place = len(s.bound.Aggs)
		if place == api.MaxAggs {
			return 0, api.ErrWide
		}
		s.bound.Aggs = append(s.bound.Aggs, a)
		s.ofGroup = append(s.ofGroup, kind)
	}
	return len(s.bound.Keys) + place, api.OK
}

// aggregateKind is the kind of what an aggregate comes to.
func (s *selecting) aggregateKind(a api.Agg) (int, api.Errno) {
	if a.Tag == api.AggAll {
		return api.VInt, api.OK
	}
	kind, e := expr.Kind(a.Arg, s.kinds)
	switch {
	case e != api.OK:
		return 0, e
	case a.Tag == api.AggSum && kind != api.VInt && kind != api.VNull:
		return 0, api.ErrKind
	case a.Tag == api.AggCount || a.Tag == api.AggSum:
		return api.VInt, api.OK
	}
	return kind, api.OK
}

// aggregates are those that tags of trees stand for.
var aggregates = [...]int{
	api.NCountAll: api.AggAll,
	api.NCount:    api.AggCount,
	api.NSum:      api.AggSum,
	api.NMin:      api.AggMin,
	api.NMax:      api.AggMax,
}

// aggregateOf is the aggregate that a tag stands for; 0, if it is none.
func aggregateOf(tag int) int {
	if tag < 0 || tag >= len(aggregates) {
		return 0
	}
	return aggregates[tag]
}
