package denote_test

import (
	"cmp"
	"math/big"
	"slices"

	"bowsprit/api"
)

// What a tree comes to, reckoned apart from the program, and from the layers below it.

func valuesByRule(a, b api.Value) int {
	return cmp.Or(cmp.Compare(a.Kind, b.Kind), cmp.Compare(a.N, b.N), cmp.Compare(a.U, b.U), cmp.Compare(a.S, b.S))
}

func rowsByRule(a, b api.Row) int {
	return slices.CompareFunc(a, b, valuesByRule)
}

func truth(is bool) api.Value {
	if is {
		return yes
	}
	return no
}

// reckonedByRule is what a tag of arithmetic comes to of numbers; nil of what faults.
func reckonedByRule(tag int, a, b int64) *api.Value {
	x, y := big.NewInt(a), big.NewInt(b)
	switch tag {
	case api.NNeg:
		x.Neg(x)
	case api.NAdd:
		x.Add(x, y)
	case api.NSub:
		x.Sub(x, y)
	case api.NMul:
		x.Mul(x, y)
	default:
		if b == 0 {
			return nil
		}
		x.Quo(x, y)
	}
	if !x.IsInt64() {
		return nil
	}
	v := number(x.Int64())
	return &v
}

// logicByRule is what NAnd and NOr come to: the winner, if one part is it.
func logicByRule(winner, a, b api.Value) api.Value {
	switch {
	case a == winner || b == winner:
		return winner
	case a == null || b == null:
		return null
	}
	return truth(winner == no)
}

// askedByRule is what the node of a place comes to; nil of what faults.
func askedByRule(x api.Expr, place int, r api.Row) *api.Value {
	n := x.Nodes[place]
	a, b := null, null
	for k, part := range []int{n.L, n.R} {
		if part < 0 {
			continue
		}
		v := askedByRule(x, part, r)
		if v == nil {
			return nil
		}
		if k == 0 {
			a = *v
		} else {
			b = *v
		}
	}
	v := null
	switch n.Tag {
	case api.NLit:
		v = n.Value
	case api.ECol:
		v = r[n.Col]
	case api.NIsNull:
		v = truth(a == null)
	case api.NNotNull:
		v = truth(a != null)
	case api.NAnd:
		v = logicByRule(no, a, b)
	case api.NOr:
		v = logicByRule(yes, a, b)
	default:
		if a == null || b == null && n.R >= 0 {
			return &v
		}
		switch n.Tag {
		case api.NNot:
			v = truth(a == no)
		case api.NEq:
			v = truth(a == b)
		case api.NNe:
			v = truth(a != b)
		case api.NLt:
			v = truth(valuesByRule(a, b) < 0)
		case api.NLe:
			v = truth(valuesByRule(a, b) <= 0)
		case api.NGt:
			v = truth(valuesByRule(a, b) > 0)
		case api.NGe:
			v = truth(valuesByRule(a, b) >= 0)
		default:
			return reckonedByRule(n.Tag, a.N, b.N)
		}
	}
	return &v
}

// allByRule is what an expression comes to of each row; false, if it faults of one.
func allByRule(x api.Expr, l []api.Row) ([]api.Value, bool) {
	var out []api.Value
	for _, r := range l {
		v := askedByRule(x, len(x.Nodes)-1, r)
		if v == nil {
			return nil, false
		}
		out = append(out, *v)
	}
	return out, true
}

// aggByRule is what an aggregate comes to; false, if it faults.
func aggByRule(a api.Agg, l []api.Row) (api.Value, bool) {
	if a.Tag == api.AggAll {
		return number(int64(len(l))), true
	}
	values, ok := allByRule(a.Arg, l)
	if !ok {
		return null, false
	}
	values = slices.DeleteFunc(values, func(v api.Value) bool { return v == null })
	switch {
	case a.Tag == api.AggCount:
		return number(int64(len(values))), true
	case len(values) == 0:
		return null, true
	case a.Tag == api.AggMin:
		return slices.MinFunc(values, valuesByRule), true
	case a.Tag == api.AggMax:
		return slices.MaxFunc(values, valuesByRule), true
	}
	sum := new(big.Int)
	for _, v := range values {
		sum.Add(sum, big.NewInt(v.N))
	}
	return number(sum.Int64()), sum.IsInt64()
}

// widthByRule is how many columns a place has.
func widthByRule(l api.Logic, place int) int {
	switch n := l.Nodes[place]; n.Op {
	case api.LScan:
		return len(n.Kinds)
	case api.LJoin:
		return widthByRule(l, n.A) + widthByRule(l, n.B)
	case api.LGroup:
		return len(n.Keys) + len(n.Aggs)
	case api.LProject:
		return len(n.Items)
	default:
		return widthByRule(l, n.A)
	}
}

func joinByRule(n api.LNode, a, b []api.Row, width int) ([]api.Row, api.Errno) {
	if len(a)*len(b) > 40000 {
		return nil, api.ErrLong
	}
	var out []api.Row
	for _, x := range a {
		var both []api.Row
		for _, y := range b {
			both = append(both, slices.Concat(x, y))
		}
		truths, ok := allByRule(n.Cond, both)
		if !ok {
			return nil, api.ErrFault
		}
		for k, v := range truths {
			if v == yes {
				out = append(out, both[k])
			}
		}
		if n.Left && !slices.Contains(truths, yes) {
			out = append(out, slices.Concat(x, make(api.Row, width)))
		}
	}
	return out, api.OK
}

func groupByRule(n api.LNode, a []api.Row) ([]api.Row, api.Errno) {
	var groups [][]api.Row
	var heads []api.Row
	if len(n.Keys) == 0 {
		groups, heads = [][]api.Row{a}, []api.Row{{}}
		a = nil
	}
	for _, r := range a {
		var head api.Row
		for _, k := range n.Keys {
			head = append(head, r[k])
		}
		at := slices.IndexFunc(heads, func(h api.Row) bool { return slices.Equal(h, head) })
		if at < 0 {
			at, heads, groups = len(heads), append(heads, head), append(groups, nil)
		}
		groups[at] = append(groups[at], r)
	}
	for k, g := range groups {
		for _, x := range n.Aggs {
			v, ok := aggByRule(x, g)
			if !ok {
				return nil, api.ErrFault
			}
			heads[k] = append(heads[k], v)
		}
	}
	return heads, api.OK
}

func projectByRule(n api.LNode, a []api.Row) ([]api.Row, api.Errno) {
	out := make([]api.Row, len(a))
	for _, item := range n.Items {
		values, ok := allByRule(item, a)
		if !ok {
			return nil, api.ErrFault
		}
		for k, v := range values {
			out[k] = append(out[k], v)
		}
	}
	return out, api.OK
}

// aheadByRule tells of rows that have the columns whether one stands ahead of another one.
func aheadByRule(a, b api.Row, order []api.Ord) bool {
	for _, o := range order {
		switch c := valuesByRule(a[o.Col], b[o.Col]); {
		case c < 0:
			return !o.Desc
		case c > 0:
			return o.Desc
		}
	}
	return rowsByRule(a, b) < 0
}

// sortByRule puts each row ahead of all those ahead of which it stands.
func sortByRule(l []api.Row, order []api.Ord, limit int) []api.Row {
	var out []api.Row
	for _, r := range l {
		at := slices.IndexFunc(out, func(x api.Row) bool { return aheadByRule(r, x, order) })
		if at < 0 {
			at = len(out)
		}
		out = slices.Insert(out, at, r)
	}
	if limit >= 0 && limit < len(out) {
		out = out[:limit]
	}
	return out
}

// nodeByRule is what a node comes to of its parts, in whatever order.
func nodeByRule(l api.Logic, n api.LNode, base api.Base, a, b []api.Row) ([]api.Row, api.Errno) {
	switch n.Op {
	case api.LScan:
		return base.Tables[n.Table], api.OK
	case api.LJoin:
		return joinByRule(n, a, b, widthByRule(l, n.B))
	case api.LFilter:
		truths, ok := allByRule(n.Cond, a)
		if !ok {
			return nil, api.ErrFault
		}
		var out []api.Row
		for k, v := range truths {
			if v == yes {
				out = append(out, a[k])
			}
		}
		return out, api.OK
	case api.LGroup:
		return groupByRule(n, a)
	case api.LProject:
		return projectByRule(n, a)
	case api.LDistinct:
		return slices.CompactFunc(slices.Clone(a), slices.Equal), api.OK
	case api.LUnion:
		return slices.Concat(a, b), api.OK
	}
	return sortByRule(a, n.Order, n.Limit), api.OK
}

// byRule is what a tree that may be comes to over a database that fits it.
func byRule(l api.Logic, base api.Base) ([]api.Row, api.Errno) {
	var came [][]api.Row
	part := func(place int) []api.Row {
		if place < 0 {
			return nil
		}
		return came[place]
	}
	for _, n := range l.Nodes {
		rows, e := nodeByRule(l, n, base, part(n.A), part(n.B))
		if e == api.OK && len(rows) > 8000 {
			e = api.ErrLong
		}
		if e != api.OK {
			return nil, e
		}
		if n.Op != api.LSort {
			rows = slices.Clone(rows)
			slices.SortFunc(rows, rowsByRule)
		}
		came = append(came, rows)
	}
	return came[len(came)-1], api.OK
}
