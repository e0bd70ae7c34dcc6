package task_test

import (
	"reflect"
	"slices"
	"testing"

	"bowsprit/api"
	"bowsprit/frame"
	"bowsprit/mean"
	"bowsprit/plan"
	"bowsprit/task"
)

// outcome is what layer 21 says of an instance.
type outcome struct {
	rows    []api.Row
	reached bool
	err     api.Errno
}

// query is a plan that is run over a layout, of an epoch: all its tasks, at all nodes, and what layer 21 says of it.
type query struct {
	plan    api.Plan
	layout  api.Layout
	epoch   int
	tasks   []api.Task
	means   api.Mean
	streams map[api.Stream][]api.Row
	comes   []outcome // of each task's instance
}

// newQuery has all tasks of a plan begun.
func newQuery(t *testing.T, p api.Plan, c api.Catalog, l api.Layout, epoch int) *query {
	t.Helper()
	q := &query{plan: p, layout: l, epoch: epoch, tasks: planned(t, p, epoch, l).tasks, streams: map[api.Stream][]api.Row{}}
	var e api.Errno
	q.means, e = mean.Mean(p, c, l)
	must(t, e)
	all, e := plan.Streams(p, len(l.Parts))
	must(t, e)
	for _, s := range all {
		q.streams[s], e = mean.Stream(p, c, l, s)
		must(t, e)
	}
	for _, x := range q.tasks {
		rows, reached, e := mean.Instance(p, c, l, api.Stream{Frag: x.Number, From: x.Node})
		q.comes = append(q.comes, outcome{rows, reached, e})
	}
	return q
}

func must(t *testing.T, e api.Errno) {
	t.Helper()
	if e != api.OK {
		t.Fatal(e)
	}
}

// tables are those of a task's node.
func (q *query) tables(x api.Task) [][]api.Row {
	if x.Node == 0 {
		return nil
	}
	return q.layout.Parts[x.Node-1].Tables
}

// hasBegun tells whether rows are a beginning of others.
func hasBegun(rows, all []api.Row) bool {
	return len(rows) <= len(all) && same(rows, all[:len(rows)])
}

// isSound holds what follows of a task, wherever it stands: it may be, it has beginnings of what goes on its streams, and came to what its instance comes to.
func (q *query) isSound(t *testing.T, k int) {
	t.Helper()
	x, said := q.tasks[k], q.comes[k]
	must(t, task.Check(x))
	for _, in := range x.Ins {
		all := q.streams[api.Stream{Frag: in.Frag, From: in.From, To: x.Node}]
		if !hasBegun(in.Rows, all) || in.Receiver.Over && len(in.Rows) != len(all) {
			t.Fatalf("%v of %v came: %v", in, all, short(x))
		}
	}
	if x.State == api.TaskGathers {
		return
	}
	fell := x.State == api.TaskFell
	if !said.reached || fell != (said.err != api.OK) || x.Err != said.err {
		t.Fatalf("%v is as %v", short(x), said)
	}
	if x.Frag.Way == api.WayRoot && !same(x.Rows, said.rows) {
		t.Fatalf("%v, not %v", short(x), said)
	}
	for _, out := range x.Outs {
		left := slices.Clone(q.streams[api.Stream{Frag: x.Number, From: x.Node, To: out.To}])
		slices.Reverse(left)
		var rows []api.Row
		for _, b := range out.Sender.Queue {
			rows = append(rows, b.Rows...)
		}
		rows = append(rows, out.Rest...)
		slices.Reverse(rows)
		if !fell && !hasBegun(rows, left) {
			t.Fatalf("%v are left of %v: %v", rows, left, short(x))
		}
	}
}

// goes has a task go on, ticks has it tick; hears has all tasks hear a message: none is changed but the one at the other end of its stream.
func (q *query) goes(t *testing.T, k int) {
	t.Helper()
	var e api.Errno
	q.tasks[k], e = task.Go(q.tasks[k], q.tables(q.tasks[k]))
	must(t, e)
	q.isSound(t, k)
}

func (q *query) ticks(t *testing.T, k int) []api.Msg {
	t.Helper()
	x, l, e := task.Tick(q.tasks[k])
	must(t, e)
	for _, m := range l {
		if e := frame.Check(m); e != api.OK || m.Epoch != q.epoch || m.From != x.Node {
			t.Fatalf("%v of %v: %v", m, short(x), e)
		}
	}
	q.tasks[k] = x
	q.isSound(t, k)
	return l
}

func (q *query) hears(t *testing.T, m api.Msg) (changed bool) {
	t.Helper()
	to := m.Frag
	if m.Kind == api.MsgData {
		to = readerByRule(q.plan, m.Frag)
	}
	for k, x := range q.tasks {
		if x.Node != m.To && k%7 > 0 { // most of those at other nodes are not asked
			continue
		}
		after, e := task.Hear(x, m)
		must(t, e)
		if task.Same(x, after) {
			continue
		}
		if m.Epoch != q.epoch || x.Node != m.To || x.Number != to || frame.Check(m) != api.OK {
			t.Fatalf("%v is heard by %v: %v", m, short(x), short(after))
		}
		changed = true
		q.tasks[k] = after
		q.isSound(t, k)
	}
	return changed
}

// web is queries whose messages go over the same way, on which they are lost, doubled, late, and turned about.
type web struct {
	*maker
	queries []*query
	way     []api.Msg // what was said, and did neither come nor get lost
	said    []api.Msg // all that ever was
	odds    [7]int    // how often each thing is done
	heard   int       // how many changed something
}

func newWeb(t *testing.T, seed int64, planned bool) *web {
	t.Helper()
	w := &web{maker: newMaker(seed)}
	for k := range 1 + w.Intn(2) {
		var p api.Plan
		if !planned {
			p = w.newPlan(5)
		} else if x, e := plan.Plan(w.newTree(6), w.catalog); e == api.OK {
			p = x
		} else {
			t.Fatal(e)
		}
		l := w.laid(1+w.Intn(3), w.base())
		w.queries = append(w.queries, newQuery(t, p, w.catalog, l, 5+k))
	}
	for k := range w.odds {
		w.odds[k] = 1 + w.Intn(8)
	}
	w.odds[3+w.Intn(2)] += 6 // much comes, in order or not
	if w.Intn(3) == 0 {
		w.odds[2] *= 6 // much is lost
	}
	return w
}

// pull takes one from the way, wherever it stands there.
func (w *web) pull() api.Msg {
	k := w.Intn(len(w.way))
	m := w.way[k]
	w.way = slices.Delete(w.way, k, k+1)
	return m
}

// says sends messages; of too many on the way some are lost.
func (w *web) says(l []api.Msg) {
	w.way, w.said = append(w.way, l...), append(w.said, l...)
	for len(w.way) > 200 {
		w.pull()
	}
}

// comes has all tasks of all queries hear a message.
func (w *web) comes(t *testing.T, m api.Msg) {
	t.Helper()
	for _, q := range w.queries {
		if q.hears(t, m) {
			w.heard++
		}
	}
}

// does is one thing that befalls, of a kind.
func (w *web) does(t *testing.T, kind int) {
	t.Helper()
	q := w.queries[w.Intn(len(w.queries))]
	switch {
	case kind < 2:
		for k := range q.tasks {
			if w.Intn(3) == 0 {
				continue
			}
			if kind == 0 {
				q.goes(t, k)
			} else {
				w.says(q.ticks(t, k))
			}
		}
	case kind == 2:
		for range min(len(w.way), w.Intn(9)) {
			w.pull()
		}
	case kind == 3 || kind == 4: // the next ones come, or others
		for range 1 + w.Intn(2*len(q.tasks)) {
			if kind == 4 && len(w.way) > 0 {
				w.comes(t, w.pull())
			} else if len(w.way) > 0 {
				m := w.way[0]
				w.way = w.way[1:]
				w.comes(t, m)
			}
		}
	case kind == 5 && len(w.said) > 0: // one that came or was lost comes, late
		w.comes(t, w.said[w.Intn(len(w.said))])
	case kind == 6 && len(w.said) > 0: // one that may not be any more
		m := copyOf(w.said[w.Intn(len(w.said))])
		strew(w.Rand, reflect.ValueOf(&m).Elem())
		if frame.Check(m) != api.OK {
			w.comes(t, m)
		}
	}
}

// isLeft tells whether a task has anything to do yet that it can.
func (q *query) isLeft() bool {
	for k, x := range q.tasks {
		if q.comes[k].reached && x.State != api.TaskDone && x.State != api.TaskFell {
			return true
		}
	}
	return false
}

// rounds are as many as a plan takes at most, if nothing is lost: behind one another each fragment's streams, of each as many as there are batches, and Again for each, and one ahead of them.
func (q *query) rounds() int {
	most := make([]int, len(q.plan.Frags))
	for s, rows := range q.streams {
		most[s.Frag] = max(most[s.Frag], len(rows))
	}
	all := 0
	for _, rows := range most {
		batches := (rows+api.MaxBatch-1)/api.MaxBatch + 1
		all += 1 + batches*(1+api.Again)
	}
	return all
}

// ends holds that from where it stands all tasks of a plan come to what it means, if nothing is lost from then on, within these rounds; what was said ahead of that may come again. It tells how many these were.
func (q query) ends(t *testing.T, w *web, late bool) int {
	t.Helper()
	q.tasks = slices.Clone(q.tasks)
	count := 0
	for ; q.isLeft() && count < q.rounds(); count++ {
		var l []api.Msg
		for k := range q.tasks {
			q.goes(t, k)
			l = append(l, q.ticks(t, k)...)
		}
		if late && len(w.said) > 0 {
			for range 3 {
				l = append(l, w.said[w.Intn(len(w.said))])
			}
		}
		for _, m := range l {
			q.hears(t, m)
		}
	}
	q.isMeant(t)
	return count
}

// isMeant holds that each task came to what its instance comes to, and all of them to what the plan means.
func (q *query) isMeant(t *testing.T) {
	t.Helper()
	var got api.Mean
	for k, x := range q.tasks {
		want := api.TaskDone
		switch said := q.comes[k]; {
		case !said.reached:
			want = api.TaskGathers
		case said.err != api.OK:
			want = api.TaskFell
		}
		if x.State != want {
			t.Fatalf("%v, not %v: it does not end", short(x), want)
		}
		got.Fault = got.Fault || x.Err == api.ErrFault
		got.Over = got.Over || x.Err == api.ErrOver
		got.Rows = append(got.Rows, x.Rows...)
	}
	if !mean.Same(got, q.means) {
		t.Fatalf("%v, not %v", got, q.means)
	}
}

// seen is what befell queries, in all.
type seen struct {
	steps, heard, ended, faults, overs, done, rows, long int
}

// befalls has so many things befall a web, and holds now and then that its queries would end.
func (s *seen) befalls(t *testing.T, w *web, count int) {
	t.Helper()
	total := 0
	for _, n := range w.odds {
		total += n
	}
	for range count {
		s.steps++
		n, kind := w.Intn(total), 0
		for ; n >= w.odds[kind]; kind++ {
			n -= w.odds[kind]
		}
		w.does(t, kind)
		if w.Intn(60) == 0 {
			q := w.queries[w.Intn(len(w.queries))]
			q.ends(t, w, w.Intn(2) == 0)
			s.ended++
		}
	}
	s.heard += w.heard
	for _, q := range w.queries {
		q.ends(t, w, w.Intn(2) == 0)
		s.tells(q)
	}
}

// tells counts what a query came to.
func (s *seen) tells(q *query) {
	for _, x := range q.tasks {
		if x.State == api.TaskDone {
			s.done++
		}
	}
	if q.means.Fault {
		s.faults++
	}
	if q.means.Over {
		s.overs++
	}
	s.rows += len(q.means.Rows)
	for _, rows := range q.streams {
		if len(rows) > api.MaxBatch*api.MaxHold {
			s.long++
		}
	}
}

// P25.6: plans of chance, sound and not, over databases and nets of chance: tasks may be, have beginnings of what goes on their streams, and come to what the plan means, from wherever they stand.
func TestWebsOfPlans(t *testing.T) {
	var s seen
	for seed := range int64(90) {
		s.befalls(t, newWeb(t, 2500+seed, false), 220)
	}
	if s.steps < 15000 || s.heard < 2500 || s.ended < 200 || s.faults < 8 || s.overs < 4 || s.done < 200 || s.rows < 400 || s.long < 10 {
		t.Error(s)
	}
}

// P25.6: the same of plans that layer 19 makes of trees.
func TestWebsOfTrees(t *testing.T) {
	var s seen
	for seed := range int64(90) {
		s.befalls(t, newWeb(t, 2600+seed, true), 220)
	}
	if s.steps < 15000 || s.heard < 2500 || s.ended < 200 || s.faults < 8 || s.overs < 3 || s.done < 200 || s.rows < 400 || s.long < 5 {
		t.Error(s)
	}
}

// P25.6: when nothing is ever lost, more plans, at up to as many nodes as there may be.
func TestNothingIsLost(t *testing.T) {
	m := newMaker(257)
	var s seen
	for range 150 {
		p := m.newPlan(7)
		q := newQuery(t, p, m.catalog, m.laid(m.nodes(), m.base()), 1+m.Intn(api.MaxEpochs))
		if len(q.tasks) > 60 {
			continue
		}
		if n := q.ends(t, nil, false); n > 2+len(p.Frags)*8 {
			t.Errorf("%v rounds of %v", n, p)
		}
		s.tells(q)
		s.steps++
	}
	if s.steps < 120 || s.faults < 15 || s.overs < 5 || s.rows < 200 || s.long < 10 {
		t.Error(s)
	}
}
