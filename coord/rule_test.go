package coord_test

import (
	"slices"

	"bowsprit/api"
	"bowsprit/frame"
	"bowsprit/prop"
	"bowsprit/query"
	"bowsprit/row"
	"bowsprit/task"
	"bowsprit/worker"
)

// What the chapter says, reckoned apart from the program: what the layers below say of their own things is left to them, but sets are lists here, what the coordinator's own worker begins and drops is done by hand, and what is said is told of each epoch and each node alone.

// upTo tells whether a number is from least to most.
func upTo(n, least, most int) bool {
	for k := least; k <= most; k++ {
		if k == n {
			return true
		}
	}
	return false
}

// bits are the places of the bits that a set has.
func bits(set uint32) (l []int) {
	for place := 0; set > 0; place++ {
		if set%2 == 1 {
			l = append(l, place)
		}
		set /= 2
	}
	return l
}

func has(set uint32, place int) bool {
	return slices.Contains(bits(set), place)
}

// setOf is the set that has just these bits.
func setOf(l ...int) (set uint32) {
	for _, place := range slices.Compact(slices.Sorted(slices.Values(l))) {
		one := uint32(1)
		for range place {
			one *= 2
		}
		set += one
	}
	return set
}

// How a query stands: it runs; it is over, and was told to be dropped; it is over, and nobody was told of it; all else may not be.
const (
	wrong = iota
	running
	told
	untold
)

// stands tells how the query of an entry stands, by what the worker knows of its epoch.
func stands(c api.Coord, epoch int) int {
	x := c.Entries[epoch-1]
	knows, tells := has(c.Worker.Has, epoch), has(c.Worker.Gone, epoch)
	switch {
	case query.Check(x.Life) != api.OK || x.Life.Epoch != epoch:
		return wrong
	case x.Life.State == 1 && knows && len(bits(x.Gone)) == 0:
		return running
	case x.Life.State == 2 && tells:
		return told
	case x.Life.State == 2 && !knows && len(bits(x.Gone)) == 0 && len(bits(x.Has)) == 0:
		return untold
	}
	return wrong
}

func checkByRule(c api.Coord) api.Errno {
	if worker.Check(c.Worker) != api.OK || c.Worker.Node != 0 || len(c.Entries) > 12 {
		return api.ErrCoord
	}
	for _, epoch := range append(bits(c.Worker.Has), bits(c.Worker.Gone)...) {
		if !upTo(epoch, 1, len(c.Entries)) {
			return api.ErrCoord
		}
	}
	for k, x := range c.Entries {
		if stands(c, k+1) == wrong {
			return api.ErrCoord
		}
		for _, node := range append(bits(x.Has), bits(x.Gone)...) {
			if !upTo(node, 1, c.Worker.Sites) {
				return api.ErrCoord
			}
		}
	}
	return api.OK
}

// ruled is what becomes of a coordinator that may be.
func ruled(do func(g given, c *api.Coord) answer) func(g given) answer {
	return func(g given) answer {
		if checkByRule(g.Coord) != api.OK {
			return answer{Err: api.ErrCoord}
		}
		c := copyOf(g.Coord)
		a := do(g, &c)
		if a.Err == api.OK {
			a.Coord = c
		}
		return a
	}
}

func submitByRule(g given, c *api.Coord) answer {
	epoch := len(c.Entries) + 1
	if epoch > 12 {
		return answer{Err: api.ErrFull}
	}
	l, _ := query.Begin(c.Worker.Catalog, epoch, g.Text)
	p := l.Program.Plan
	if l.State == 1 {
		m := api.Msg{Kind: 1, Epoch: epoch, Sites: c.Worker.Sites, Plan: p}
		if _, _, e := prop.Check(p, c.Worker.Catalog); e == api.OK && frame.Check(m) == api.OK {
			c.Worker.Has = setOf(append(bits(c.Worker.Has), epoch)...)
			for frag := range p.Frags {
				if x, e := task.Begin(p, epoch, c.Worker.Sites, frag, 0); e == api.OK {
					c.Worker.Tasks = append(c.Worker.Tasks, x)
				}
			}
		} else {
			l = api.Life{Epoch: epoch, State: 2, Report: api.Report{Err: 300}}
		}
	}
	c.Entries = append(c.Entries, api.Entry{Life: l})
	return answer{Epoch: epoch}
}

// overByRule has a query over, with a report.
func overByRule(c *api.Coord, epoch int, r api.Report) {
	x := &c.Entries[epoch-1]
	x.Life = api.Life{Epoch: epoch, State: 2, Report: r}
	isOf := func(x api.Task) bool { return x.Epoch == epoch }
	isEpoch := func(n int) bool { return n == epoch }
	c.Worker.Tasks = slices.DeleteFunc(c.Worker.Tasks, isOf)
	c.Worker.Has = setOf(slices.DeleteFunc(bits(c.Worker.Has), isEpoch)...)
	c.Worker.Gone = setOf(append(bits(c.Worker.Gone), epoch)...)
}

func cancelByRule(g given, c *api.Coord) answer {
	switch {
	case !upTo(g.Epoch, 1, len(c.Entries)):
		return answer{Err: api.ErrNone}
	case stands(*c, g.Epoch) != running:
		return answer{Err: api.ErrReported}
	}
	overByRule(c, g.Epoch, api.Report{Err: 371})
	return answer{}
}

func hearByRule(g given, c *api.Coord) answer {
	m := g.Msg
	if frame.Check(m) != api.OK || m.To != 0 || !upTo(m.From, 1, c.Worker.Sites) || !upTo(m.Epoch, 1, len(c.Entries)) {
		return answer{}
	}
	x, how := &c.Entries[m.Epoch-1], stands(*c, m.Epoch)
	switch {
	case m.Kind == 2 && how == running:
		x.Has = setOf(append(bits(x.Has), m.From)...)
	case m.Kind == 7 && how == told:
		x.Gone = setOf(append(bits(x.Gone), m.From)...)
	case m.Kind == 5 && how == running:
		overByRule(c, m.Epoch, api.Report{Err: m.Err})
	case m.Kind == 3 || m.Kind == 4:
		for k, x := range c.Worker.Tasks {
			c.Worker.Tasks[k], _ = task.Hear(x, m)
		}
	}
	return answer{}
}

// reportByRule is the report by which a query that runs is over at a tick, if it is.
func reportByRule(c api.Coord, epoch int) (api.Report, bool) {
	names := c.Entries[epoch-1].Life.Program.Names
	fell, r := api.OK, api.Report{}
	for _, x := range slices.Backward(c.Worker.Tasks) {
		switch {
		case x.Epoch == epoch && x.State == 4:
			fell = x.Err
		case x.Epoch == epoch && x.State == 3 && x.Frag.Way == 4:
			r = api.Report{Names: names, Rows: x.Rows}
			isOdd := func(r api.Row) bool { return row.Check(r) != api.OK || len(r) != len(names) }
			if slices.ContainsFunc(x.Rows, isOdd) {
				r = api.Report{Err: 300}
			}
		}
	}
	if !same(r, api.Report{}) || isEnded(c, epoch) {
		return r, true
	}
	return api.Report{Err: fell}, fell != api.OK
}

// isEnded tells whether a worker has the rows of an epoch, be it none.
func isEnded(c api.Coord, epoch int) bool {
	return slices.ContainsFunc(c.Worker.Tasks, func(x api.Task) bool { return x.Epoch == epoch && x.State == 3 && x.Frag.Way == 4 })
}

func tickByRule(g given, c *api.Coord) answer {
	w, said, _ := worker.Tick(c.Worker)
	c.Worker = w
	for epoch := len(c.Entries); epoch > 0; epoch-- { // none hangs on another one
		if r, ok := reportByRule(*c, epoch); ok && stands(*c, epoch) == running {
			overByRule(c, epoch, r)
		}
	}
	for k, x := range c.Entries {
		for node := 1; node <= w.Sites; node++ {
			how := stands(*c, k+1)
			if how == running && !has(x.Has, node) {
				said = append(said, api.Msg{Kind: 1, To: node, Epoch: k + 1, Sites: w.Sites, Plan: x.Life.Program.Plan})
			}
			if how == told && !has(x.Gone, node) {
				said = append(said, api.Msg{Kind: 6, To: node, Epoch: k + 1})
			}
		}
	}
	return answer{Msgs: copyOf(said)}
}

func quietByRule(c api.Coord) bool {
	if checkByRule(c) != api.OK {
		return false
	}
	loud := 0
	for k, x := range c.Entries {
		if how := stands(c, k+1); how == running || how == told && len(bits(x.Gone)) < c.Worker.Sites {
			loud++
		}
	}
	return loud == 0
}

// rules are what calls answer by rule, in the order of calls.
func rules() []func(g given) answer {
	return []func(g given) answer{
		func(g given) answer { return answer{Err: checkByRule(g.Coord)} },
		func(g given) answer {
			if _, e := worker.New(g.Catalog, g.Sites, 0, nil); e != api.OK {
				return answer{Err: e}
			}
			return answer{Coord: api.Coord{Worker: api.Worker{Sites: g.Sites, Catalog: g.Catalog}}}
		},
		ruled(submitByRule), ruled(cancelByRule), ruled(hearByRule), ruled(tickByRule),
		func(g given) answer {
			if checkByRule(g.Coord) != api.OK || !upTo(g.Epoch, 1, len(g.Coord.Entries)) || stands(g.Coord, g.Epoch) == running {
				return answer{}
			}
			return answer{Report: g.Coord.Entries[g.Epoch-1].Life.Report, Is: true}
		},
		func(g given) answer { return answer{Is: quietByRule(g.Coord)} },
		func(g given) answer { return answer{Is: same(g.Coord, g.Other)} },
	}
}
