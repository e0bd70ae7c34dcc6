package coord

import (
	"slices"

	"bowsprit/api"
)

// copied is a list of copies.
func copied[T any](l []T, copyOf func(T) T) []T {
	own := make([]T, len(l))
	copy(own, l)
	for k := range own {
		own[k] = copyOf(own[k])
	}
	return own
}

func copyOfExpr(x api.Expr) api.Expr {
	x.Nodes = slices.Clone(x.Nodes)
	return x
}

func copyOfAgg(a api.Agg) api.Agg {
	a.Arg = copyOfExpr(a.Arg)
	return a
}

func copyOfNode(n api.LNode) api.LNode {
	n.Kinds, n.Keys, n.Order = slices.Clone(n.Kinds), slices.Clone(n.Keys), slices.Clone(n.Order)
	n.Cond = copyOfExpr(n.Cond)
	n.Aggs = copied(n.Aggs, copyOfAgg)
	n.Items = copied(n.Items, copyOfExpr)
	return n
}

func copyOfFrag(f api.Frag) api.Frag {
	f.Nodes = copied(f.Nodes, copyOfNode)
	f.Cols = slices.Clone(f.Cols)
	return f
}

func copyOfPlan(p api.Plan) api.Plan {
	return api.Plan{Frags: copied(p.Frags, copyOfFrag)}
}

func copyOfReport(r api.Report) api.Report {
	r.Names = slices.Clone(r.Names)
	r.Rows = copied(r.Rows, slices.Clone[api.Row])
	return r
}

func copyOfEntry(x api.Entry) api.Entry {
	x.Life.Program.Plan = copyOfPlan(x.Life.Program.Plan)
	x.Life.Program.Names = slices.Clone(x.Life.Program.Names)
	x.Life.Report = copyOfReport(x.Life.Report)
	return x
}
