package worker_test

import (
	"maps"
	"reflect"
	"slices"
	"testing"

	"bowsprit/api"
	"bowsprit/frame"
	"bowsprit/mean"
	"bowsprit/plan"
	"bowsprit/task"
	"bowsprit/worker"
)

// query is a plan of an epoch that all nodes are to hear of, and what layer 21 says of it.
type query struct {
	plan    api.Plan
	epoch   int
	means   api.Mean
	streams map[api.Stream][]api.Row
	dropped map[int]bool // at which nodes it was
}

// web is the workers of all nodes of a layout, and queries beside one another, whose messages are lost, doubled, late, and turned about.
type web struct {
	*maker
	layout  api.Layout
	workers []api.Worker
	queries []*query
	way     []api.Msg // what was said, and did neither come nor get lost
	said    []api.Msg // all that ever was
	odds    [8]int    // how often each thing is done
	seen    *seen
}

// seen is what befell webs, in all.
type seen struct {
	steps, ticks, heard, ended, again, drops, faults, overs, rows, failed int
}

func must(t *testing.T, e api.Errno) {
	t.Helper()
	if e != api.OK {
		t.Fatal(e)
	}
}

// newQuery is one of a plan over the web's layout.
func (w *web) newQuery(t *testing.T, p api.Plan, epoch int) {
	t.Helper()
	q := query{plan: p, epoch: epoch, streams: map[api.Stream][]api.Row{}, dropped: map[int]bool{}}
	var e api.Errno
	q.means, e = mean.Mean(p, w.catalog, w.layout)
	must(t, e)
	all, e := plan.Streams(p, len(w.layout.Parts))
	must(t, e)
	for _, s := range all {
		q.streams[s], e = mean.Stream(p, w.catalog, w.layout, s)
		must(t, e)
	}
	w.queries = append(w.queries, &q)
}

// newWeb has so many queries, of plans of chance, or of such as layer 19 makes of trees.
func newWeb(t *testing.T, seed int64, queries int, trees bool, s *seen) *web {
	t.Helper()
	w := &web{maker: newMaker(seed), seen: s}
	w.newCatalog()
	w.bold = w.bold || seed%2 == 0
	w.layout = w.laid(1+w.Intn(3), w.base())
	nodes := len(w.layout.Parts)
	for node := range nodes + 1 {
		var tables [][]api.Row
		if node > 0 {
			tables = w.layout.Parts[node-1].Tables
		}
		x, e := worker.New(w.catalog, nodes, node, tables)
		must(t, e)
		w.workers = append(w.workers, x)
	}
	for _, k := range w.Perm(api.MaxEpochs)[:queries] {
		p := api.Plan{}
		if !trees {
			p = w.newPlan(4)
		} else {
			var e api.Errno
			p, e = plan.Plan(w.newTree(5), w.catalog)
			must(t, e)
		}
		w.newQuery(t, p, k+1)
	}
	for k := range w.odds {
		w.odds[k] = 1 + w.Intn(8)
	}
	w.odds[0] += 6           // they tick
	w.odds[2+w.Intn(2)] += 8 // much comes, in order or not
	if w.Intn(3) == 0 {
		w.odds[1] *= 4 // much is lost
	}
	return w
}

// only is what a worker has of one epoch.
func only(w api.Worker, epoch int) api.Worker {
	other := func(x api.Task) bool { return x.Epoch != epoch }
	w.Tasks = slices.DeleteFunc(slices.Clone(w.Tasks), other)
	w.Has &= setOf(epoch)
	w.Gone &= setOf(epoch)
	return w
}

// isApart holds now and then that what a call makes of a worker, and what that says, is of each query just what it would be, if that one were alone.
func (w *web) isApart(t *testing.T, before, after api.Worker, said []api.Msg, call func(api.Worker) (api.Worker, []api.Msg, api.Errno)) {
	t.Helper()
	if w.Intn(3) > 0 {
		return
	}
	q := w.queries[w.Intn(len(w.queries))]
	alone, l, e := call(only(before, q.epoch))
	must(t, e)
	if got, want := only(after, q.epoch), only(alone, q.epoch); !same(got, want) {
		t.Fatalf("of the epoch %v: %v, not as if it were alone: %v", q.epoch, short(got), short(want))
	}
	others := func(m api.Msg) bool { return m.Epoch != q.epoch }
	if got, want := slices.DeleteFunc(slices.Clone(said), others), slices.DeleteFunc(slices.Clone(l), others); !same(got, want) {
		t.Fatalf("of the epoch %v: %v is said, not as if it were alone: %v", q.epoch, got, want)
	}
}

// isSound holds what follows of a worker, wherever it stands: it may be, and (asked now and then) it has for each query no rows but those that it means, and no end but one of its.
func (w *web) isSound(t *testing.T, node int) {
	t.Helper()
	x := w.workers[node]
	must(t, worker.Check(x))
	for _, q := range w.queries {
		if w.Intn(8) > 0 {
			continue
		}
		want := map[bool]int{true: 2}[q.dropped[node]]
		if knows := worker.Knows(x, q.epoch); knows != want && (want == 2 || knows != 1) {
			t.Fatalf("of %v it knows %v: %v", q.epoch, knows, short(x))
		}
		if rows, ok := worker.Rows(x, q.epoch); ok && (node > 0 || !mean.May(q.means, rows, api.OK)) {
			t.Fatalf("%v of %v at %v", rows, q.means, node)
		}
		if e, ok := worker.Fell(x, q.epoch); ok && !mean.May(q.means, nil, e) {
			t.Fatalf("%v of %v at %v", e, q.means, node)
		}
	}
}

// isMsg holds of what a worker says that it may be, and goes to another node.
func isMsg(t *testing.T, node int, m api.Msg) {
	t.Helper()
	if e := frame.Check(m); e != api.OK || m.From != node || m.To == node {
		t.Fatalf("%v is said by %v: %v", m, node, e)
	}
}

// ticks has a node tick: nothing of it changes but how its tasks stand.
func (w *web) ticks(t *testing.T, node int) []api.Msg {
	t.Helper()
	before := w.workers[node]
	after, l, e := worker.Tick(before)
	must(t, e)
	w.workers[node] = after
	names := func(x api.Worker) (l []int) {
		for _, y := range x.Tasks {
			l = append(l, name(y))
		}
		return l
	}
	other := after
	other.Tasks = before.Tasks
	if !slices.Equal(names(before), names(after)) || !worker.Same(before, other) {
		t.Fatalf("%v ticks: %v", short(before), short(after))
	}
	fails := map[int]api.Errno{}
	for _, m := range l {
		isMsg(t, node, m)
		if m.Kind == api.MsgFail {
			fails[m.Epoch] = m.Err
		}
	}
	for _, q := range w.queries {
		if e, ok := worker.Fell(after, q.epoch); ok && node > 0 && fails[q.epoch] != e {
			t.Fatalf("%v is said of %v, which fell by %v", fails, q.epoch, e)
		}
	}
	w.seen.failed += len(fails)
	w.isApart(t, before, after, l, worker.Tick)
	w.isSound(t, node)
	w.seen.ticks++
	return l
}

// hears has a node hear a message, if it is one for it: just what is of that epoch changes.
func (w *web) hears(t *testing.T, node int, m api.Msg) []api.Msg {
	t.Helper()
	before := w.workers[node]
	after, l, e := worker.Hear(before, m)
	must(t, e)
	hear := func(x api.Worker) (api.Worker, []api.Msg, api.Errno) { return worker.Hear(x, m) }
	w.isApart(t, before, after, l, hear)
	if node != m.To || frame.Check(m) != api.OK {
		if !worker.Same(before, after) || len(l) > 0 {
			t.Fatalf("%v hears %v: %v, %v", short(before), m, short(after), l)
		}
		return nil
	}
	for _, x := range l {
		isMsg(t, node, x)
	}
	if !worker.Same(before, after) {
		w.seen.heard++
		w.workers[node] = after
	}
	w.isSound(t, node)
	return l
}

// plans tells a node of a query, whether it knows of it or not: of what it knows nothing begins.
func (w *web) plans(t *testing.T, node int, q *query) []api.Msg {
	t.Helper()
	before := w.workers[node]
	knew := worker.Knows(before, q.epoch)
	l := w.hears(t, node, planned(q.plan, q.epoch, node, len(w.layout.Parts)))
	after := w.workers[node]
	if knew > 0 {
		w.seen.again++
		if !worker.Same(before, after) {
			t.Fatalf("%v is told %v again: %v", short(before), q.epoch, short(after))
		}
	} else if worker.Knows(after, q.epoch) != 1 || len(after.Tasks) == len(before.Tasks) {
		t.Fatalf("%v is told %v: %v", short(before), q.epoch, short(after))
	}
	want := []api.Msg{have(q.epoch, node)}
	if knew == 2 {
		want[0].Kind = api.MsgGone
	}
	if node == 0 {
		want = nil
	}
	if !same(l, want) {
		t.Fatalf("%v is said, not %v", l, want)
	}
	return l
}

// drops has a node drop a query.
func (w *web) drops(t *testing.T, node int, q *query) []api.Msg {
	t.Helper()
	q.dropped[node] = true
	w.seen.drops++
	l := w.hears(t, node, dropped(q.epoch, node))
	if x := w.workers[node]; worker.Knows(x, q.epoch) != 2 || slices.ContainsFunc(x.Tasks, func(x api.Task) bool { return x.Epoch == q.epoch }) {
		t.Fatalf("%v was dropped: %v", q.epoch, short(x))
	}
	return l
}

// pull takes one from the way, wherever it stands there.
func (w *web) pull() api.Msg {
	k := w.Intn(len(w.way))
	m := w.way[k]
	w.way = slices.Delete(w.way, k, k+1)
	return m
}

// says sends messages; of too many on the way some are lost.
func (w *web) says(l []api.Msg) {
	w.way, w.said = append(w.way, l...), append(w.said, l...)
	for len(w.way) > 300 {
		w.pull()
	}
}

// comes has the node to which a message goes hear it, and now and then another one, too.
func (w *web) comes(t *testing.T, m api.Msg) {
	t.Helper()
	for node := range w.workers {
		if node == m.To || w.Intn(20) == 0 {
			w.says(w.hears(t, node, m))
		}
	}
}

// does is one thing that befalls, of a kind.
func (w *web) does(t *testing.T, kind int) {
	t.Helper()
	node, q := w.Intn(len(w.workers)), w.queries[w.Intn(len(w.queries))]
	switch {
	case kind == 0:
		w.says(w.ticks(t, node))
	case kind == 1:
		for range min(len(w.way), w.Intn(9)) {
			w.pull()
		}
	case kind == 2 || kind == 3: // the next ones come, or others
		for range 1 + w.Intn(9) {
			if kind == 3 && len(w.way) > 0 {
				w.comes(t, w.pull())
			} else if len(w.way) > 0 {
				m := w.way[0]
				w.way = w.way[1:]
				w.comes(t, m)
			}
		}
	case kind == 4:
		w.says(w.plans(t, node, q))
	case kind == 5 && w.Intn(12) == 0:
		w.says(w.drops(t, node, q))
	case kind == 6 && len(w.said) > 0: // one that came or was lost comes, late
		w.comes(t, w.said[w.Intn(len(w.said))])
	case kind == 7 && len(w.said) > 0: // one that may not be any more
		m := copyOf(w.said[w.Intn(len(w.said))])
		strew(w.Rand, reflect.ValueOf(&m).Elem())
		if frame.Check(m) != api.OK {
			w.comes(t, m)
		}
	}
}

// rounds are as many as a plan takes at most, if nothing is lost: behind one another each fragment's streams, of each as many as there are batches, and Again for each, and one ahead of them.
func (q *query) rounds() int {
	most := make([]int, len(q.plan.Frags))
	for s, rows := range q.streams {
		most[s.Frag] = max(most[s.Frag], len(rows))
	}
	all := 1
	for _, rows := range most {
		batches := (rows+api.MaxBatch-1)/api.MaxBatch + 1
		all += 1 + batches*(1+api.Again)
	}
	return all
}

// isOver tells whether the workers came to what a query means: the coordinator's to its rows, or one of them to one of its ends.
func (w *web) isOver(q *query) bool {
	_, ok := worker.Rows(w.workers[0], q.epoch)
	for _, x := range w.workers {
		_, fell := worker.Fell(x, q.epoch)
		ok = ok || fell
	}
	return ok
}

// round is one in which nothing is lost: all nodes are told of all queries of which they do not know, but such as some node dropped, and tick, and all that is said comes; what was said ahead of that may come again.
func (w *web) round(t *testing.T, late bool) {
	t.Helper()
	var l []api.Msg
	for node := range w.workers {
		for _, q := range w.queries {
			if len(q.dropped) == 0 && worker.Knows(w.workers[node], q.epoch) == 0 {
				l = append(l, w.plans(t, node, q)...)
			}
		}
		l = append(l, w.ticks(t, node)...)
	}
	if late && len(w.said) > 0 {
		for range 3 {
			l = append(l, w.said[w.Intn(len(w.said))])
		}
	}
	for _, m := range l {
		w.hears(t, m.To, m)
	}
}

// ends holds that from where they stand the workers come to what each query means that none dropped, if nothing is lost from then on, within its rounds.
func (w web) ends(t *testing.T, late bool) {
	t.Helper()
	w.workers = slices.Clone(w.workers)
	left := slices.DeleteFunc(slices.Clone(w.queries), func(q *query) bool { return len(q.dropped) > 0 })
	for count := 0; len(left) > 0; count++ {
		for _, q := range left {
			if count > q.rounds() && !w.isOver(q) {
				t.Fatalf("%v does not end: %v", q.plan, q.means)
			}
		}
		left = slices.DeleteFunc(left, w.isOver)
		w.round(t, late)
	}
	for _, q := range w.queries {
		if len(q.dropped) > 0 {
			continue
		}
		rows, ok := worker.Rows(w.workers[0], q.epoch)
		if ends := q.means.Fault || q.means.Over; ok == ends || ok && !mean.May(q.means, rows, api.OK) {
			t.Fatalf("%v, %v of %v", rows, ok, q.means)
		}
	}
	w.seen.ended++
}

// befalls has so many things befall a web, and holds now and then that its queries would end.
func (w *web) befalls(t *testing.T, count int) {
	t.Helper()
	total := 0
	for _, n := range w.odds {
		total += n
	}
	for range count {
		w.seen.steps++
		n, kind := w.Intn(total), 0
		for ; n >= w.odds[kind]; kind++ {
			n -= w.odds[kind]
		}
		w.does(t, kind)
		if w.Intn(100) == 0 {
			w.ends(t, w.Intn(2) == 0)
		}
	}
	w.ends(t, w.Intn(2) == 0)
	for _, q := range w.queries {
		w.seen.rows += len(q.means.Rows)
		if q.means.Fault {
			w.seen.faults++
		}
		if q.means.Over {
			w.seen.overs++
		}
	}
}

// P26.6: plans of chance, sound and not, several beside one another, over databases and nets of chance: workers may be, each query is to them as if it were alone, a plan begins once, and never when it was dropped; and they come to what the plans mean, from wherever they stand.
func TestWebsOfPlans(t *testing.T) {
	var s seen
	for seed := range int64(40) {
		newWeb(t, 2680+seed, 1+int(seed)%4, false, &s).befalls(t, 200)
	}
	if s.steps < 8000 || s.ticks < 2500 || s.heard < 4000 || s.ended < 80 || s.again < 250 || s.drops < 25 || s.faults < 5 || s.overs < 2 || s.rows < 500 || s.failed < 100 {
		t.Error(s)
	}
}

// P26.6: the same of plans that layer 19 makes of trees.
func TestWebsOfTrees(t *testing.T) {
	var s seen
	for seed := range int64(40) {
		newWeb(t, 2780+seed, 1+int(seed)%4, true, &s).befalls(t, 200)
	}
	if s.steps < 8000 || s.ticks < 2500 || s.heard < 4000 || s.ended < 80 || s.again < 250 || s.drops < 25 || s.faults < 5 || s.overs < 2 || s.rows < 500 || s.failed < 100 {
		t.Error(s)
	}
}

// P26.6: when nothing is ever lost, and nothing dropped: as many queries as there may be, at once.
func TestNothingIsLost(t *testing.T) {
	var s seen
	for seed := range int64(4) {
		newWeb(t, 2880+seed, api.MaxEpochs, seed%2 == 0, &s).ends(t, false)
	}
	if s.ended != 4 || s.heard < 500 {
		t.Error(s)
	}
}

// P26.6: a plan is told, dropped, and told again, in whatever order, by every few steps of chance: what began once, and was dropped, never begins again, whatever comes of it.
func TestDroppedForEver(t *testing.T) {
	m := newMaker(268)
	p := fourWays()
	for range 30 {
		w, was := plain(1), map[int]int{}
		for range 120 {
			e := 1 + m.Intn(api.MaxEpochs)
			msg := []api.Msg{planned(p, e, 1, sites), planned(small(), e, 1, sites), planned(noPlans()[m.Intn(len(noPlans()))], e, 1, sites), dropped(e, 1), data(e, 0, 2, 1, 1, batch(1)), ack(e, 0, 2, 1, 1, 8)}[m.Intn(6)]
			if msg.Kind == api.MsgDrop && m.Intn(3) > 0 {
				continue
			}
			after, _, f := worker.Hear(w, msg)
			must(t, f)
			for e := range api.MaxEpochs + 1 {
				knows := worker.Knows(after, e)
				if knows < was[e] || knows != 1 && slices.ContainsFunc(after.Tasks, func(x api.Task) bool { return x.Epoch == e }) {
					t.Fatalf("%v: %v, of %v", msg, short(after), was)
				}
				was[e] = knows
			}
			must(t, worker.Check(after))
			w = after
		}
		if counts := slices.Sorted(maps.Values(was)); counts[len(counts)-1] != 2 {
			t.Error(counts)
		}
	}
}

// P26.6: what a worker's tasks hear and say is what they would without it.
func TestTasksAlone(t *testing.T) {
	m := newMaker(269)
	for range 200 {
		w := m.worker()
		msg := m.msg(w)
		if msg.Kind != api.MsgData && msg.Kind != api.MsgAck {
			continue
		}
		after, _, e := worker.Hear(w, msg)
		must(t, e)
		for k, x := range w.Tasks {
			alone, e := task.Hear(x, msg)
			must(t, e)
			if !task.Same(alone, after.Tasks[k]) {
				t.Errorf("%v: %v, not %v", msg, brief(after.Tasks[k]), brief(alone))
			}
		}
	}
}
