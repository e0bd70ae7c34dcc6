package exec

import (
	"slices"

	"bowsprit/api"
	"bowsprit/denote"
	"bowsprit/expr"
	"bowsprit/prop"
	"bowsprit/row"
)

// run is a fragment on its way over what was handed in, which fits it.
type run struct {
	api.Frag
	handed map[int][][]api.Row // tables and inputs, by the Op that asks for them
	kinds  [][]int             // of each node's columns
	came   [][]api.Row         // what each node came to, as far as the run is
}

// fit tells whether rows fit kinds. A value that may not be is of none.
func fit(rows []api.Row, kinds []int) bool {
	isOf := func(v api.Value, kind int) bool { return v.Kind == api.VNull || v.Kind == kind }
	doesNot := func(r api.Row) bool { return row.Check(r) != api.OK || !slices.EqualFunc(r, kinds, isOf) }
	return len(rows) <= api.MaxList && !slices.ContainsFunc(rows, doesNot)
}

// begin is a run that may be: ErrFrag, if the nodes may not be; ErrArg, if what is handed in does not fit. What no node asks for is not looked at.
func begin(f api.Frag, tables, inputs [][]api.Row) (run, api.Errno) {
	kinds, _, e := prop.Kinds(f.Nodes)
	if e != api.OK {
		return run{}, e
	}
	handed := map[int][][]api.Row{api.LScan: tables, api.LInput: inputs}
	lacks := func(n api.LNode) bool {
		lists, asks := handed[n.Op]
		return asks && (n.Table >= len(lists) || !fit(lists[n.Table], n.Kinds))
	}
	if slices.ContainsFunc(f.Nodes, lacks) {
		return run{}, api.ErrArg
	}
	return run{Frag: f, handed: handed, kinds: kinds}, api.OK
}

// comes are what Ops come to, of nodes whose parts came to something; but for a sort's the rows stand in whatever order.
func comes() map[int]func(run, api.LNode) ([]api.Row, api.Errno) {
	return map[int]func(run, api.LNode) ([]api.Row, api.Errno){
		api.LScan:     run.leaf,
		api.LJoin:     run.join,
		api.LFilter:   run.filter,
		api.LGroup:    run.group,
		api.LProject:  run.project,
		api.LDistinct: run.distinct,
		api.LUnion:    run.union,
		api.LSort:     run.sort,
		api.LInput:    run.leaf,
		api.LPartial:  run.partial,
		api.LFinal:    run.final,
	}
}

// root is what the fragment comes to. Rows are counted ahead of being sorted: a join may come to more of them than a list has.
func (r run) root() ([]api.Row, api.Errno) {
	comes, said := comes(), api.OK
nodes:
	for _, n := range r.Nodes {
		rows, e := comes[n.Op](r, n)
		switch {
		case e != api.OK:
			said = e
			break nodes
		case len(rows) > api.MaxRows:
			said = api.ErrOver
			break nodes
		case n.Op != api.LSort:
			rows, _ = row.Sorted(rows)
		}
		r.came = append(r.came, rows)
	}
	if said != api.OK {
		return nil, said
	}
	return r.came[len(r.came)-1], api.OK
}

func (r run) leaf(n api.LNode) ([]api.Row, api.Errno) {
	return r.handed[n.Op][n.Table], api.OK
}

// holding are the rows of which a condition comes to true; it is asked of all, for it faults, if it does of one.
func holding(cond api.Expr, rows []api.Row) ([]api.Row, api.Errno) {
	var l []api.Row
	for _, one := range rows {
		truth, e := expr.Eval(cond, one)
		if e != api.OK {
			return nil, e
		}
		if truth == (api.Value{Kind: api.VBool, N: 1}) {
			l = append(l, one)
		}
	}
	return l, api.OK
}

func (r run) filter(n api.LNode) ([]api.Row, api.Errno) {
	return holding(n.Cond, r.came[n.A])
}

// join has no more pairs than there may be, for neither part has more than MaxRows rows.
func (r run) join(n api.LNode) ([]api.Row, api.Errno) {
	var rows []api.Row
	for _, left := range r.came[n.A] {
		var pairs []api.Row
		for _, right := range r.came[n.B] {
			pairs = append(pairs, slices.Concat(left, right))
		}
		met, e := holding(n.Cond, pairs)
		if e != api.OK {
			return nil, e
		}
		if n.Left && len(met) == 0 {
			nulls := make(api.Row, len(r.kinds[n.B]))
			met = append(met, slices.Concat(left, nulls))
		}
		rows = append(rows, met...)
	}
	return rows, api.OK
}

func (r run) project(n api.LNode) ([]api.Row, api.Errno) {
	var rows []api.Row
	for _, whole := range r.came[n.A] {
		var one api.Row
		for _, item := range n.Items {
			v, e := expr.Eval(item, whole)
			if e != api.OK {
				return nil, e
			}
			one = append(one, v)
		}
		rows = append(rows, one)
	}
	return rows, api.OK
}

func (r run) distinct(n api.LNode) ([]api.Row, api.Errno) {
	return row.Distinct(r.came[n.A])
}

func (r run) union(n api.LNode) ([]api.Row, api.Errno) {
	return slices.Concat(r.came[n.A], r.came[n.B]), api.OK
}

func (r run) sort(n api.LNode) ([]api.Row, api.Errno) {
	return denote.Sort(r.came[n.A], n.Order, n.Limit)
}
