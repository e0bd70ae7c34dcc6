package prop_test

import (
	"slices"
	"testing"

	"bowsprit/api"
	"bowsprit/arith"
	"bowsprit/denote"
	"bowsprit/expr"
	"bowsprit/prop"
	"bowsprit/row"
)

// What stands here runs a plan over a layout, as plainly as it can be, to see what Props and Sound say come true.

// right is an answer without an error; one with an error ends a run.
func right[T any](x T, e api.Errno) T {
	if e != api.OK {
		panic(e)
	}
	return x
}

// holds tells whether a condition comes to true of a row.
func holds(cond api.Expr, r api.Row) bool {
	return right(expr.Eval(cond, r)) == yes
}

func joined(n api.LNode, a, b []api.Row, right int) (l []api.Row) {
	for _, x := range a {
		partner := false
		for _, y := range b {
			if r := slices.Concat(x, y); holds(n.Cond, r) {
				l, partner = append(l, r), true
			}
		}
		if n.Left && !partner {
			l = append(l, slices.Concat(x, make(api.Row, right)))
		}
	}
	return l
}

// grouped is a row for each group: its key, and what each aggregate comes to of its rows.
func grouped(rows []api.Row, keys []int, aggs []api.Agg, deed func(k int, g api.Agg, rows []api.Row) api.Value) (l []api.Row) {
	for _, g := range right(row.Groups(rows, keys)) {
		r := slices.Clone(g.Key)
		for k, a := range aggs {
			r = append(r, deed(k, a, g.Rows))
		}
		l = append(l, r)
	}
	return l
}

func whollyOf(_ int, g api.Agg, rows []api.Row) api.Value {
	return right(denote.Aggregate(g, rows))
}

// begun is a partial aggregate: of a sum that is under way, still.
func begun(_ int, g api.Agg, rows []api.Row) api.Value {
	if g.Tag != api.AggSum {
		return right(denote.Aggregate(g, rows))
	}
	var s api.Value
	for _, r := range rows {
		s = right(arith.Sum(s, right(expr.Eval(g.Arg, r))))
	}
	return s
}

// endOf puts partial aggregates together that stand behind so many keys.
func endOf(keys int) func(k int, g api.Agg, rows []api.Row) api.Value {
	return func(k int, g api.Agg, rows []api.Row) api.Value {
		switch g.Tag {
		case api.AggSum:
			var s api.Value
			for _, r := range rows {
				s = right(arith.Join(s, r[keys+k]))
			}
			return right(arith.End(s))
		case api.AggAll, api.AggCount:
			s := right(denote.Aggregate(agg(api.AggSum, col(keys+k)), rows))
			return number(s.N)
		}
		return right(denote.Aggregate(agg(g.Tag, col(keys+k)), rows))
	}
}

// comesTo is what a node comes to, of what its parts come to.
func comesTo(n api.LNode, a, b []api.Row, width int) (l []api.Row) {
	switch n.Op {
	case api.LJoin:
		return joined(n, a, b, width)
	case api.LFilter:
		for _, r := range a {
			if holds(n.Cond, r) {
				l = append(l, r)
			}
		}
		return l
	case api.LProject:
		for _, r := range a {
			var x api.Row
			for _, item := range n.Items {
				x = append(x, right(expr.Eval(item, r)))
			}
			l = append(l, x)
		}
		return l
	case api.LDistinct:
		return right(row.Distinct(a))
	case api.LUnion:
		return slices.Concat(a, b)
	case api.LSort:
		return right(denote.Sort(a, n.Order, n.Limit))
	case api.LPartial:
		return grouped(a, n.Keys, n.Aggs, begun)
	}
	deed := whollyOf
	if n.Op == api.LFinal {
		deed = endOf(len(n.Keys))
	}
	if l = grouped(a, n.Keys, n.Aggs, deed); len(n.Keys) == 0 && len(a) == 0 {
		l = []api.Row{nil}
		for k, g := range n.Aggs {
			l[0] = append(l[0], deed(k, g, nil))
		}
	}
	return l
}

// run is a plan that is run at so many nodes.
type run struct {
	plan   api.Plan
	layout api.Layout
	nodes  int
	come   map[spot][]api.Row   // of which fragment, at which machine: the rows that are sent there
	came   map[[3]int][]api.Row // of which fragment, of which node of it, at which machine: the rows that it came to
}

// places are those of the nodes where a fragment runs.
func (r run) places(f api.Frag) int {
	if f.At == api.AtOne {
		return 1
	}
	return r.nodes
}

// goOn sends rows of a fragment to where they belong.
func (r run) goOn(frag int, rows []api.Row) {
	f := r.plan.Frags[frag]
	for _, x := range rows {
		switch f.Way {
		case api.WayCast:
			for k := range r.nodes {
				r.come[spot{frag, k}] = append(r.come[spot{frag, k}], x)
			}
		case api.WayShuffle:
			to := spot{frag, int(right(row.Hash(x, f.Cols)) % uint32(r.nodes))}
			r.come[to] = append(r.come[to], x)
		default:
			r.come[spot{frag, 0}] = append(r.come[spot{frag, 0}], x)
		}
	}
}

// all is what comes of the last fragment; ErrFault, if something faults; ErrLong, if a list is longer than this test's worth.
func (r run) all() (rows []api.Row, e api.Errno) {
	defer func() {
		if x := recover(); x != nil {
			if rows, e = nil, x.(api.Errno); e != api.ErrFault && e != api.ErrLong {
				panic(x)
			}
		}
	}()
	for frag, f := range r.plan.Frags {
		kinds := must(kindsByRule(f.Nodes))
		for k := range r.places(f) {
			for place, n := range f.Nodes {
				var l []api.Row
				switch n.Op {
				case api.LScan:
					l = r.layout.Parts[k].Tables[n.Table]
				case api.LInput:
					l = r.come[spot{n.Table, k}]
				default:
					var width int
					var b []api.Row
					if n.B >= 0 {
						width, b = len(kinds[n.B]), r.came[[3]int{frag, n.B, k}]
					}
					l = comesTo(n, r.came[[3]int{frag, n.A, k}], b, width)
				}
				if len(l) > 1000 {
					return nil, api.ErrLong
				}
				r.came[[3]int{frag, place, k}] = l
				rows = l
			}
			r.goOn(frag, rows)
		}
	}
	return rows, api.OK
}

// started is a run that is done, and what came of it.
func started(p api.Plan, l api.Layout) (run, []api.Row, api.Errno) {
	r := run{plan: p, layout: l, nodes: len(l.Parts), come: map[spot][]api.Row{}, came: map[[3]int][]api.Row{}}
	rows, e := r.all()
	return r, rows, e
}

// nodesLie holds that what each node of a run came to lies as Props says: by a hash each row at its machine; whole, where all below is sound, at each machine the same.
func (r run) nodesLie(t *testing.T, c api.Catalog) (hashes int) {
	t.Helper()
	for frag, f := range r.plan.Frags {
		props := right(prop.Props(r.plan, c, frag))
		sound := true
		for place, p := range props {
			sound = sound && nodeByRule(r.plan, c, frag, place)
			for k := range r.places(f) {
				rows := r.came[[3]int{frag, place, k}]
				if p.Kind == api.PropHashed {
					hashes += len(rows)
				}
				for _, x := range rows {
					if p.Kind == api.PropHashed && int(right(row.Hash(x, p.Cols))%uint32(r.nodes)) != k {
						t.Errorf("%v at %v of %v: not %v, %v at %v", place, frag, r.plan, p, x, k)
					}
				}
				if first := r.came[[3]int{frag, place, 0}]; p.Kind == api.PropWhole && sound && !right(row.Alike(rows, first)) {
					t.Errorf("%v at %v of %v: not whole: %v, %v", place, frag, r.plan, rows, first)
				}
			}
		}
	}
	return hashes
}
