package logic_test

import (
	"slices"
	"testing"

	"bowsprit/api"
	"bowsprit/logic"
)

// others are nodes that differ from one in one field each.
func others(n api.LNode) []api.LNode {
	changes := []func(*api.LNode){
		func(n *api.LNode) { n.Op++ },
		func(n *api.LNode) { n.A++ },
		func(n *api.LNode) { n.B-- },
		func(n *api.LNode) { n.Table++ },
		func(n *api.LNode) { n.Kinds = append(n.Kinds, api.VInt) },
		func(n *api.LNode) { n.Kinds[0]++ },
		func(n *api.LNode) { n.Kinds = n.Kinds[1:] },
		func(n *api.LNode) { n.Kinds = nil },
		func(n *api.LNode) { n.Left = !n.Left },
		func(n *api.LNode) { n.Cond = lit(yes) },
		func(n *api.LNode) { n.Cond = api.Expr{} },
		func(n *api.LNode) { n.Cond.Nodes[0].Tag++ },
		func(n *api.LNode) { n.Cond.Nodes[0].Col++ },
		func(n *api.LNode) { n.Cond.Nodes[2].L = -1 },
		func(n *api.LNode) { n.Cond.Nodes[1].Value.N++ },
		func(n *api.LNode) { n.Keys = append(n.Keys, 1) },
		func(n *api.LNode) { n.Keys[1]++ },
		func(n *api.LNode) { n.Keys[0], n.Keys[1] = n.Keys[1], n.Keys[0] },
		func(n *api.LNode) { n.Keys = n.Keys[:1] },
		func(n *api.LNode) { n.Aggs = append(n.Aggs, api.Agg{}) },
		func(n *api.LNode) { n.Aggs[1].Tag++ },
		func(n *api.LNode) { n.Aggs[1].Arg = api.Expr{} },
		func(n *api.LNode) { n.Aggs[1].Arg.Nodes[0].Col++ },
		func(n *api.LNode) { n.Aggs[0].Arg = col(0) },
		func(n *api.LNode) { slices.Reverse(n.Aggs) },
		func(n *api.LNode) { n.Aggs = n.Aggs[1:] },
		func(n *api.LNode) { n.Items = append(n.Items, api.Expr{}) },
		func(n *api.LNode) { n.Items[0].Nodes[0].Value.Kind++ },
		func(n *api.LNode) { n.Items[0].Nodes[0].Value.S = "a" },
		func(n *api.LNode) { n.Items[0].Nodes[0].Value.U++ },
		func(n *api.LNode) { n.Items[1] = lit(no) },
		func(n *api.LNode) { slices.Reverse(n.Items) },
		func(n *api.LNode) { n.Items = nil },
		func(n *api.LNode) { n.Order = append(n.Order, api.Ord{}) },
		func(n *api.LNode) { n.Order[1].Col++ },
		func(n *api.LNode) { n.Order[1].Desc = !n.Order[1].Desc },
		func(n *api.LNode) { slices.Reverse(n.Order) },
		func(n *api.LNode) { n.Order = n.Order[:1] },
		func(n *api.LNode) { n.Limit++ },
		func(n *api.LNode) { n.Limit = -1 },
	}
	var l []api.LNode
	for _, change := range changes {
		m := copyOf(n)
		change(&m)
		l = append(l, m)
	}
	return l
}

// filled has something in each field; it may not be, and is held against others all the same.
func filled() api.LNode {
	return api.LNode{
		Op: api.LJoin, A: 0, B: 1, Table: 2, Kinds: []int{api.VInt, api.VText}, Left: true, Cond: on(api.NEq, col(0), num(1)), Keys: []int{0, 1},
		Aggs: []api.Agg{agg(api.AggAll), agg(api.AggMin, col(0))}, Items: []api.Expr{num(5), col(1)}, Order: []api.Ord{{Col: 1, Desc: true}, {Col: 0}}, Limit: 7,
	}
}

// P13.1: both the same, and not, in each field alone, at each place; of what may be and of what may not.
func TestSame(t *testing.T) {
	all := slices.Concat(each(), great(), []api.Logic{{}, nodes(filled()), nodes(a(), filled()), nodes(filled(), a(), b())})
	for k, x := range all {
		if !logic.Same(x, x) || !logic.Same(x, copyOf(x)) {
			t.Errorf("%v is not itself", x)
		}
		for m, y := range all {
			if logic.Same(x, y) != same(x, y) || (k == m) != same(x, y) {
				t.Errorf("%v and %v", x, y)
			}
		}
		for _, y := range []api.Logic{{Nodes: append(slices.Clone(x.Nodes), a())}, {Nodes: append([]api.LNode{a()}, x.Nodes...)}} {
			if logic.Same(x, y) || logic.Same(y, x) {
				t.Errorf("%v and %v", x, y)
			}
		}
	}
	for _, n := range others(filled()) {
		for _, x := range [][2]api.Logic{{nodes(filled()), nodes(n)}, {nodes(a(), filled(), b()), nodes(a(), n, b())}, {nodes(a(), b(), filled()), nodes(a(), b(), n)}} {
			if logic.Same(x[0], x[1]) || logic.Same(x[1], x[0]) || !logic.Same(x[1], copyOf(x[1])) {
				t.Errorf("%v and %v", x[0], x[1])
			}
		}
	}
}

// P13.1: nil and empty lists are one.
func TestSameOfEmptyLists(t *testing.T) {
	none, empty := api.LNode{}, api.LNode{Kinds: []int{}, Cond: api.Expr{Nodes: []api.ENode{}}, Keys: []int{}, Aggs: []api.Agg{}, Items: []api.Expr{}, Order: []api.Ord{}}
	arg, item := agg(api.AggAll, api.Expr{Nodes: []api.ENode{}}), api.Expr{Nodes: make([]api.ENode, 0, 3)}
	pairs := [][2]api.Logic{
		{{}, {Nodes: []api.LNode{}}}, {nodes(none), nodes(empty)}, {nodes(group(nil, agg(api.AggAll))), nodes(group([]int{}, arg))}, {nodes(project(api.Expr{})), nodes(project(item))},
	}
	for _, x := range pairs {
		if !logic.Same(x[0], x[1]) || !logic.Same(x[1], x[0]) {
			t.Errorf("%v and %v", x[0], x[1])
		}
	}
}
