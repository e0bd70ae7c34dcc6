package mean

import (
	"iter"

	"bowsprit/api"
	"bowsprit/exec"
	"bowsprit/place"
	"bowsprit/plan"
	"bowsprit/prop"
	"bowsprit/row"
)

// instance is the fragment of a number at one of its places.
type instance struct {
	frag, node int
}

// sender is the instance out of which a stream goes.
func sender(s api.Stream) instance {
	return instance{frag: s.Frag, node: s.From}
}

// outcome is what an instance came to: whether it is reached; and if so, its rows, or which end it has.
type outcome struct {
	reached bool
	rows    []api.Row
	said    api.Errno
}

// run is a plan that may be, on its way over a layout that obeys.
type run struct {
	api.Plan
	layout api.Layout
	came   map[instance]outcome
	sent   map[api.Stream][]api.Row // just of instances that came to rows
}

// begin is a run of which nothing is done; or why there may be none.
func begin(p api.Plan, c api.Catalog, l api.Layout) (run, api.Errno) {
	if _, _, e := prop.Check(p, c); e != api.OK {
		return run{}, e
	}
	if e := place.Check(c, l); e != api.OK {
		return run{}, e
	}
	return run{Plan: p, layout: l, came: map[instance]outcome{}, sent: map[api.Stream][]api.Row{}}, api.OK
}

// sites is how many nodes have tables.
func (r run) sites() int {
	return len(r.layout.Parts)
}

// instances goes over all of the plan, by rising fragments, of one by rising nodes: so each comes behind those from which streams come to it.
func (r run) instances() iter.Seq[instance] {
	return func(yield func(instance) bool) {
		for frag := range r.Frags {
			nodes, _ := plan.Places(r.Plan, frag, r.sites())
			for _, node := range nodes {
				if !yield(instance{frag, node}) {
					return
				}
			}
		}
	}
}

// runTo goes as far as to an instance: what comes behind it has no part in it.
func (r run) runTo(last instance) {
	for i := range r.instances() {
		r.came[i] = r.comesTo(i)
		if r.came[i].reached && r.came[i].said == api.OK {
			r.send(i)
		}
		if i == last {
			return
		}
	}
}

// comesTo is what an instance comes to, of what came of those ahead of it.
func (r run) comesTo(i instance) outcome {
	inputs, reached := r.inputs(i)
	if !reached {
		return outcome{}
	}
	var tables [][]api.Row
	if i.node > 0 {
		tables = r.layout.Parts[i.node-1].Tables
	}
	rows, e := exec.Run(r.Frags[i.frag], tables, inputs)
	return outcome{reached: true, rows: rows, said: e}
}

// inputs are the rows that come to an instance, by the numbers of the fragments that they come from; false, if it is not reached.
func (r run) inputs(i instance) ([][]api.Row, bool) {
	streams, _ := plan.Into(r.Plan, i.frag, r.sites(), i.node)
	lists := make([][][]api.Row, len(r.Frags))
	for _, s := range streams {
		rows, sent := r.sent[s]
		if !sent {
			return nil, false
		}
		lists[s.Frag] = append(lists[s.Frag], rows)
	}
	inputs := make([][]api.Row, len(r.Frags))
	for frag, l := range lists {
		inputs[frag] = together(l...)
	}
	return inputs, true
}

// together are the rows of several streams, sorted. These are at most MaxRows rows each, from at most MaxSites nodes: too few for Merge to refuse them.
func together(streams ...[]api.Row) []api.Row {
	rows, _ := row.Merge(streams...)
	return rows
}

// send has an instance's rows go on its streams. Those out of it stand by rising nodes, as the lists of Goes do; of the last fragment there are none.
func (r run) send(i instance) {
	streams, _ := plan.Outof(r.Plan, i.frag, r.sites(), i.node)
	lists, _ := exec.Goes(r.Frags[i.frag], r.came[i].rows, r.sites())
	for k, s := range streams {
		r.sent[s] = lists[k]
	}
}
