package denote

import (
	"iter"
	"slices"

	"bowsprit/api"
	"bowsprit/expr"
	"bowsprit/logic"
	"bowsprit/row"
	"bowsprit/value"
)

// run is a tree on its way over a database that fits it.
type run struct {
	api.Base
	tree api.Logic
	came [][]api.Row // what each node came to, as far as the run is
}

// comes are what Ops come to, of nodes whose parts came to something.
func (r *run) comes() map[int]func(api.LNode) ([]api.Row, api.Errno) {
	return map[int]func(api.LNode) ([]api.Row, api.Errno){
		api.LScan:     r.scan,
		api.LJoin:     r.join,
		api.LFilter:   r.filter,
		api.LGroup:    r.group,
		api.LProject:  r.project,
		api.LDistinct: r.distinct,
		api.LUnion:    r.union,
		api.LSort:     r.sort,
	}
}

// root is what the whole tree comes to, or what the first node says that faults or is too long. To sort what an operator came to tells at once whether it is too long, and does so behind its faults.
func (r *run) root() ([]api.Row, api.Errno) {
	comes := r.comes()
	var rows []api.Row
	var e api.Errno
	for _, n := range r.tree.Nodes {
		if rows, e = comes[n.Op](n); e != api.OK {
			return nil, e
		}
		if n.Op != api.LSort {
			if rows, e = row.Sorted(rows); e != api.OK {
				return nil, e
			}
		}
		r.came = append(r.came, rows)
	}
	return rows, api.OK
}

func (r *run) scan(n api.LNode) ([]api.Row, api.Errno) {
	return r.Tables[n.Table], api.OK
}

// pairs goes over each row of one list with each row of another one: it tells the place of the first, and the second behind it as one row.
func pairs(a, b []api.Row) iter.Seq2[int, api.Row] {
	return func(yield func(int, api.Row) bool) {
		for place, left := range a {
			for _, right := range b {
				if !yield(place, slices.Concat(left, right)) {
					return
				}
			}
		}
	}
}

// width is how many columns a place has. Its rows don't tell it, for there may be none.
func (r *run) width(place int) int {
	part, _ := logic.Part(r.tree, place)
	kinds, _ := logic.Kinds(part)
	return len(kinds)
}

func (r *run) join(n api.LNode) ([]api.Row, api.Errno) {
	a, b := r.came[n.A], r.came[n.B]
	if len(a)*len(b) > api.MaxPairs {
		return nil, api.ErrLong
	}
	var rows []api.Row
	met := make([]bool, len(a))
	for place, both := range pairs(a, b) {
		truth, e := expr.Eval(n.Cond, both)
		if e != api.OK {
			return nil, e
		}
		if value.True(truth) {
			rows = append(rows, both)
			met[place] = true
		}
	}
	if !n.Left {
		return rows, api.OK
	}
	nulls := make(api.Row, r.width(n.B))
	for place, left := range a {
		if !met[place] {
			rows = append(rows, slices.Concat(left, nulls))
		}
	}
	return rows, api.OK
}

func (r *run) filter(n api.LNode) ([]api.Row, api.Errno) {
	var rows []api.Row
	for _, one := range r.came[n.A] {
		truth, e := expr.Eval(n.Cond, one)
		if e != api.OK {
			return nil, e
		}
		if value.True(truth) {
			rows = append(rows, one)
		}
	}
	return rows, api.OK
}

// groups are those of a list by keys. Without keys there is always one, while row.Groups knows none of no rows.
func groups(rows []api.Row, keys []int) ([]api.Group, api.Errno) {
	if len(keys) == 0 {
		return []api.Group{{Rows: rows}}, api.OK
	}
	return row.Groups(rows, keys)
}

func (r *run) group(n api.LNode) ([]api.Row, api.Errno) {
	all, e := groups(r.came[n.A], n.Keys)
	if e != api.OK {
		return nil, e
	}
	var rows []api.Row
	for _, g := range all {
		one := g.Key
		for _, a := range n.Aggs {
			v, e := Aggregate(a, g.Rows)
			if e != api.OK {
				return nil, e
			}
			one = append(one, v)
		}
		rows = append(rows, one)
	}
	return rows, api.OK
}

func (r *run) project(n api.LNode) ([]api.Row, api.Errno) {
	var rows []api.Row
	for _, whole := range r.came[n.A] {
		var one api.Row
		for _, item := range n.Items {
			v, e := expr.Eval(item, whole)
			if e != api.OK {
				return nil, e
			}
			one = append(one, v)
		}
		rows = append(rows, one)
	}
	return rows, api.OK
}

func (r *run) distinct(n api.LNode) ([]api.Row, api.Errno) {
	return row.Distinct(r.came[n.A])
}

func (r *run) union(n api.LNode) ([]api.Row, api.Errno) {
	return slices.Concat(r.came[n.A], r.came[n.B]), api.OK
}

func (r *run) sort(n api.LNode) ([]api.Row, api.Errno) {
	return Sort(r.came[n.A], n.Order, n.Limit)
}
