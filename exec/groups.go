package exec

import (
	"iter"

	"bowsprit/api"
	"bowsprit/arith"
	"bowsprit/denote"
	"bowsprit/expr"
	"bowsprit/row"
)

// groups goes over those of rows by a node's keys. Without keys there is one of no rows, too; but none of an LPartial: what is partial is there only where rows are.
func groups(n api.LNode, rows []api.Row) iter.Seq[api.Group] {
	return func(yield func(api.Group) bool) {
		all, _ := row.Groups(rows, n.Keys)
		if len(rows) == 0 && len(n.Keys) == 0 && n.Op != api.LPartial {
			all = []api.Group{{}}
		}
		for _, g := range all {
			if !yield(g) {
				return
			}
		}
	}
}

// perGroup is a row for each group of what a node's part came to: its key, and what each of Aggs comes to of its rows. With each of Aggs the place is told that its value has.
func (r run) perGroup(n api.LNode, comesTo func(a api.Agg, place int, rows []api.Row) (api.Value, api.Errno)) ([]api.Row, api.Errno) {
	var rows []api.Row
	for g := range groups(n, r.came[n.A]) {
		one := g.Key
		for _, a := range n.Aggs {
			v, e := comesTo(a, len(one), g.Rows)
			if e != api.OK {
				return nil, e
			}
			one = append(one, v)
		}
		rows = append(rows, one)
	}
	return rows, api.OK
}

func (r run) group(n api.LNode) ([]api.Row, api.Errno) {
	return r.perGroup(n, func(a api.Agg, _ int, rows []api.Row) (api.Value, api.Errno) {
		return denote.Aggregate(a, rows)
	})
}

func (r run) partial(n api.LNode) ([]api.Row, api.Errno) {
	return r.perGroup(n, begun)
}

func (r run) final(n api.LNode) ([]api.Row, api.Errno) {
	return r.perGroup(n, ended)
}

// begun is what an aggregate comes to of some of the rows that there are: its sum is still under way.
func begun(a api.Agg, _ int, rows []api.Row) (api.Value, api.Errno) {
	if a.Tag != api.AggSum {
		return denote.Aggregate(a, rows)
	}
	var sum api.Value
	for _, r := range rows {
		v, e := expr.Eval(a.Arg, r)
		if e == api.OK {
			sum, e = arith.Sum(sum, v)
		}
		if e != api.OK {
			return api.Value{}, e
		}
	}
	return sum, api.OK
}

// ended is what an aggregate comes to of what begun said of parts, which stands at a place: counts are added, of the least the least is taken.
func ended(a api.Agg, place int, rows []api.Row) (api.Value, api.Errno) {
	column, _ := expr.Leaf(api.ENode{Tag: api.ECol, Col: place})
	switch a.Tag {
	case api.AggSum:
		return joined(place, rows)
	case api.AggAll, api.AggCount:
		count, e := denote.Aggregate(api.Agg{Tag: api.AggSum, Arg: column}, rows)
		if e != api.OK {
			return api.Value{}, e
		}
		return api.Value{Kind: api.VInt, N: count.N}, api.OK // null counts as 0
	}
	return denote.Aggregate(api.Agg{Tag: a.Tag, Arg: column}, rows)
}

// joined is the end of the sums under way that stand at a place, which no expression can ask for.
func joined(place int, rows []api.Row) (api.Value, api.Errno) {
	var sum api.Value
	for _, r := range rows {
		var e api.Errno
		if sum, e = arith.Join(sum, r[place]); e != api.OK {
			return api.Value{}, e
		}
	}
	return arith.End(sum)
}
