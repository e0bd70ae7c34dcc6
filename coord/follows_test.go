package coord_test

import (
	"reflect"
	"slices"
	"testing"

	"bowsprit/api"
	"bowsprit/coord"
	"bowsprit/denote"
	"bowsprit/frame"
	"bowsprit/lower"
	"bowsprit/mean"
	"bowsprit/place"
	"bowsprit/query"
	"bowsprit/worker"
)

// asked is a text that was submitted, what it is to come to, and what was reported of it.
type asked struct {
	text     string
	epoch    int
	static   bool
	program  api.Program
	means    api.Mean
	rows     []api.Row // what the text says of the whole database, if that has no end
	streams  map[int]int
	reported bool
	report   api.Report
}

// web is a coordinator and the workers of all nodes of a layout, whose messages are lost, doubled, late, and turned about.
type web struct {
	*maker
	catalog api.Catalog
	base    api.Base
	layout  api.Layout
	coord   api.Coord
	workers []api.Worker // the first one being of the node 1
	asked   []*asked
	way     []api.Msg // what was said, and did neither come nor get lost
	said    []api.Msg // all that ever was
	odds    [8]int    // how often each thing is done
	forges  bool      // whether messages come that nobody said
	seen    *seen
}

// seen is what befell webs, in all.
type seen struct {
	steps, statics, rows, faults, overs, cancels, forged, again, ended int
}

func must(t *testing.T, e api.Errno) {
	t.Helper()
	if e != api.OK {
		t.Fatal(e)
	}
}

func newWeb(t *testing.T, seed int64, forges bool, s *seen) *web {
	t.Helper()
	w := &web{maker: newMaker(seed), forges: forges, seen: s}
	w.catalog = w.tables()
	w.base = w.maker.base(w.catalog)
	if w.oneIn(2) { // many pairs
		w.base.Tables[0] = slices.Repeat(w.base.Tables[0], 3)
		w.base.Tables[0] = w.base.Tables[0][:min(api.MaxTable, len(w.base.Tables[0]))]
	}
	var e api.Errno
	w.layout, e = place.Lay(w.catalog, w.base, 1+w.Intn(3), w.Perm(4))
	must(t, e)
	w.coord, e = coord.New(w.catalog, len(w.layout.Parts))
	must(t, e)
	for k, part := range w.layout.Parts {
		x, e := worker.New(w.catalog, len(w.layout.Parts), k+1, part.Tables)
		must(t, e)
		w.workers = append(w.workers, x)
	}
	for k := range w.odds {
		w.odds[k] = 1 + w.Intn(8)
	}
	w.odds[0] += 8           // they tick
	w.odds[2+w.Intn(2)] += 8 // much comes, in order or not
	if w.oneIn(3) {
		w.odds[1] *= 3 // much is lost
	}
	return w
}

// newText is one of chance; now and then one that joins each row with each.
func (w *web) newText() string {
	if w.oneIn(6) {
		return "SELECT p.a FROM t0 p JOIN t0 q ON TRUE JOIN t0 r ON " + w.one("TRUE", "p.a = r.a", "1 = 1")
	}
	return w.text(w.catalog)
}

// means is what a text is to come to, if it runs.
func (w *web) means(t *testing.T, q *asked) {
	t.Helper()
	x, _, e := lower.Query(w.catalog, q.text)
	must(t, e)
	q.rows, e = denote.Rows(x.Logic, w.base)
	q.means, _ = mean.Mean(q.program.Plan, w.catalog, w.layout)
	if ends := q.means.Fault || q.means.Over; e == api.OK && !ends && !same(q.rows, q.means.Rows) {
		t.Fatalf("%q: %v, not %v", q.text, q.means, q.rows)
	}
	q.streams = map[int]int{}
	for frag := range q.program.Plan.Frags {
		for from := range len(w.layout.Parts) + 1 {
			for to := range len(w.layout.Parts) + 1 {
				l, e := mean.Stream(q.program.Plan, w.catalog, w.layout, api.Stream{Frag: frag, From: from, To: to})
				if e == api.OK {
					q.streams[frag] = max(q.streams[frag], len(l))
				}
			}
		}
	}
}

// submits has a text submitted: a static error is reported at once.
func (w *web) submits(t *testing.T) {
	t.Helper()
	q := &asked{text: w.newText()}
	after, epoch, e := coord.Submit(w.coord, q.text)
	if len(w.asked) == api.MaxEpochs {
		if e != api.ErrFull {
			t.Fatal(e)
		}
		return
	}
	must(t, e)
	q.epoch = epoch
	w.asked, w.coord = append(w.asked, q), after
	program, at, e := query.Compile(w.catalog, q.text)
	if q.static = e != api.OK; q.static {
		w.seen.statics++
		if r, is := coord.Report(after, epoch); !is || !same(r, failed(e, at)) || epoch != len(w.asked) {
			t.Fatalf("%q: %v, %v, not %v at %v", q.text, r, is, e, at)
		}
	} else {
		q.program = program
		w.means(t, q)
		if _, is := coord.Report(after, epoch); is || epoch != len(w.asked) {
			t.Fatalf("%q is reported at once", q.text)
		}
	}
	w.isSound(t)
}

// isSound holds what follows of a coordinator, wherever it stands: it may be; what it reported it reports; rows, and ends, are such as the text means, if nobody forges.
func (w *web) isSound(t *testing.T) {
	t.Helper()
	must(t, coord.Check(w.coord))
	for _, q := range w.asked {
		r, is := coord.Report(w.coord, q.epoch)
		if q.reported {
			w.seen.again++
			if !is || !same(r, q.report) {
				t.Fatalf("%q: %v, %v, that was %v", q.text, r, is, q.report)
			}
			continue
		}
		if !is {
			continue
		}
		q.reported, q.report = true, copyOf(r)
		w.isTrue(t, q)
	}
	if _, is := coord.Report(w.coord, len(w.asked)+1); is {
		t.Fatal("a report of no query")
	}
}

// isTrue holds a report, as soon as it is there, against what its text means.
func (w *web) isTrue(t *testing.T, q *asked) {
	t.Helper()
	switch q.report.Err {
	case api.OK:
		w.seen.rows++
		if !w.forges && (q.means.Fault || q.means.Over || !same(q.report, came(q.rows, q.program.Names...))) {
			t.Fatalf("%q: %v, not %v, %v", q.text, q.report, q.rows, q.means)
		}
	case api.ErrFault:
		w.seen.faults++
		if !w.forges && !q.means.Fault {
			t.Fatalf("%q: %v, not %v", q.text, q.report, q.means)
		}
	case api.ErrOver:
		w.seen.overs++
		if !w.forges && !q.means.Over {
			t.Fatalf("%q: %v, not %v", q.text, q.report, q.means)
		}
	case api.ErrCancel:
		w.seen.cancels++
	}
}

// cancels has a query cancelled, whether it runs or not.
func (w *web) cancels(t *testing.T) {
	t.Helper()
	epoch := w.Intn(len(w.asked) + 2)
	after, e := coord.Cancel(w.coord, epoch)
	switch {
	case epoch == 0 || epoch > len(w.asked):
		if e != api.ErrNone {
			t.Fatal(epoch, e)
		}
		return
	case w.asked[epoch-1].reported:
		if e != api.ErrReported {
			t.Fatal(epoch, e)
		}
		return
	}
	must(t, e)
	w.coord = after
	w.isSound(t)
	if r := w.asked[epoch-1].report; !same(r, failed(api.ErrCancel, 0)) {
		t.Fatal(r)
	}
}

// isMsg holds of what a node says that it may be, goes to another node, and is of no query that has a static error.
func (w *web) isMsg(t *testing.T, node int, m api.Msg) {
	t.Helper()
	if e := frame.Check(m); e != api.OK || m.From != node || m.To == node || !upTo(m.To, 0, len(w.workers)) {
		t.Fatalf("%v is said by %v: %v", m, node, e)
	}
	if !w.forges && w.asked[m.Epoch-1].static || node == 0 && w.asked[m.Epoch-1].static {
		t.Fatalf("%v is said of %q", m, w.asked[m.Epoch-1].text)
	}
}

// says sends messages; of too many on the way some are lost.
func (w *web) says(t *testing.T, node int, l []api.Msg) {
	t.Helper()
	for _, m := range l {
		w.isMsg(t, node, m)
	}
	w.way, w.said = append(w.way, l...), append(w.said, l...)
	for len(w.way) > 400 {
		w.pull()
	}
}

func (w *web) ticks(t *testing.T, node int) {
	t.Helper()
	if node > 0 {
		x, l, e := worker.Tick(w.workers[node-1])
		must(t, e)
		w.workers[node-1] = x
		w.says(t, node, l)
		return
	}
	c, l, e := coord.Tick(w.coord)
	must(t, e)
	w.coord = c
	w.says(t, 0, l)
	w.isSound(t)
}

// comes has the node to which a message goes hear it.
func (w *web) comes(t *testing.T, m api.Msg) {
	t.Helper()
	if m.To > 0 && m.To <= len(w.workers) {
		x, l, e := worker.Hear(w.workers[m.To-1], m)
		must(t, e)
		w.workers[m.To-1] = x
		w.says(t, m.To, l)
		return
	}
	c, e := coord.Hear(w.coord, m)
	must(t, e)
	if (m.To != 0 || frame.Check(m) != api.OK) && !coord.Same(c, w.coord) {
		t.Fatalf("%v is heard", m)
	}
	w.coord = c
	w.isSound(t)
}

// pull takes one from the way, wherever it stands there.
func (w *web) pull() api.Msg {
	k := w.Intn(len(w.way))
	m := w.way[k]
	w.way = slices.Delete(w.way, k, k+1)
	return m
}

// forged is a message that nobody said, though it may be.
func (w *web) forged() api.Msg {
	w.seen.forged++
	l := ofEachKind(1+w.Intn(api.MaxEpochs), 1+w.Intn(len(w.workers)))
	return l[w.Intn(len(l)-2)] // but plans and drops to the coordinator
}

// late is a message that was said, as it was, or with a thing of chance changed, so that it may not be any more.
func (w *web) late(isSpoiled bool) api.Msg {
	m := copyOf(w.said[w.Intn(len(w.said))])
	for range 20 {
		if !isSpoiled || frame.Check(m) != api.OK {
			return m
		}
		strew(w.Rand, reflect.ValueOf(&m).Elem())
	}
	return api.Msg{}
}

// does is one thing that befalls, of a kind.
func (w *web) does(t *testing.T, kind int) {
	t.Helper()
	switch {
	case kind == 0:
		w.ticks(t, w.Intn(len(w.workers)+1))
	case kind == 1:
		for range min(len(w.way), w.Intn(9)) {
			w.pull()
		}
	case kind == 2 || kind == 3: // the next ones come, or others
		for range 1 + w.Intn(12) {
			if kind == 3 && len(w.way) > 0 {
				w.comes(t, w.pull())
			} else if len(w.way) > 0 {
				m := w.way[0]
				w.way = w.way[1:]
				w.comes(t, m)
			}
		}
	case kind == 4 && w.oneIn(3):
		w.submits(t)
	case kind == 5 && w.oneIn(8):
		w.cancels(t)
	case kind == 6 && len(w.said) > 0:
		w.comes(t, w.late(w.oneIn(3)))
	case kind == 7 && w.forges && w.oneIn(6):
		w.comes(t, w.forged())
	}
}

// rounds are as many as a query takes at most, if nothing is lost: one to tell of it; behind one another each fragment's streams, of each as many as there are batches, and Again for each; and one to tell of a failure.
func (q *asked) rounds() int {
	all := 3
	for frag := range q.program.Plan.Frags {
		batches := (q.streams[frag]+api.MaxBatch-1)/api.MaxBatch + 1
		all += 1 + batches*(1+api.Again)
	}
	return all
}

// round is one in which nothing is lost: all nodes tick, and then all that is said comes, and what is said to that.
func (w *web) round(t *testing.T) {
	t.Helper()
	for node := range len(w.workers) + 1 {
		w.ticks(t, node)
	}
	for len(w.way) > 0 {
		m := w.way[0]
		w.way = w.way[1:]
		w.comes(t, m)
	}
}

// ends holds that from where it stands each query is reported within its rounds, if nothing is lost from then on, and that all is quiet then.
func (w *web) ends(t *testing.T) {
	t.Helper()
	for count := 0; !coord.Quiet(w.coord); count++ {
		most := 0
		for _, q := range w.asked {
			if most = max(most, q.rounds()); count > q.rounds() && !q.reported && !w.forges {
				t.Fatalf("%q does not end: %v", q.text, q.means)
			}
		}
		if count > 2*most+5 {
			if !w.forges {
				t.Fatalf("it is not quiet: %v", w.coord)
			}
			return
		}
		w.round(t)
	}
	w.seen.ended++
	was := len(w.said)
	for range 2 {
		w.round(t)
	}
	if len(w.said) != was && !w.forges {
		t.Fatalf("%v is said, though it was quiet", w.said[was:])
	}
}

// befalls has so many things befall a web, and then holds that its queries end.
func (w *web) befalls(t *testing.T, count int) {
	t.Helper()
	total := 0
	for _, n := range w.odds {
		total += n
	}
	for range count {
		w.seen.steps++
		n, kind := w.Intn(total), 0
		for ; n >= w.odds[kind]; kind++ {
			n -= w.odds[kind]
		}
		w.does(t, kind)
		if w.oneIn(count / 2) {
			w.ends(t)
		}
	}
	w.ends(t)
}

// P28.6: texts of chance, several at once, over catalogs, databases and ways of chance: what comes may be; static errors are reported at once, and nothing is ever said of them; reports are what the texts mean, and stay; and all come, and are told to be dropped.
func TestWebs(t *testing.T) {
	var s seen
	for seed := range int64(26) {
		newWeb(t, 2860+seed, false, &s).befalls(t, 200)
	}
	if s.steps < 5200 || s.statics < 12 || s.rows < 80 || s.faults < 3 || s.overs < 3 || s.cancels < 6 || s.ended < 50 || s.again < 5000 {
		t.Error(s)
	}
}

// P28.6: the same while nodes say what they do not mean: what comes may be, one report there is at most, and it stays.
func TestForgedWebs(t *testing.T) {
	var s seen
	for seed := range int64(12) {
		newWeb(t, 2960+seed, true, &s).befalls(t, 200)
	}
	if s.steps < 2400 || s.statics < 6 || s.rows < 20 || s.faults+s.overs < 3 || s.cancels < 4 || s.forged < 25 || s.again < 1500 {
		t.Error(s)
	}
}

// P28.6: what was cancelled, or failed, never comes to rows, though its rows are there at the next tick, and all that is said of it still comes.
func TestNeverToRows(t *testing.T) {
	for _, finish := range []func(c api.Coord) (api.Coord, api.Errno){
		func(c api.Coord) (api.Coord, api.Errno) { return coord.Cancel(c, 1) },
		func(c api.Coord) (api.Coord, api.Errno) { return coord.Hear(c, fails(1, 2, api.ErrFault)) },
		func(c api.Coord) (api.Coord, api.Errno) { return coord.Hear(c, fails(1, 3, api.ErrOver)) },
	} {
		for _, x := range []api.Task{ready(1), done(1, "1 / 2"), gathers(1)} {
			c, e := finish(laid([]api.Task{x}, entry(runs(1, small(), "c"), nil, nil)))
			must(t, e)
			want, is := coord.Report(c, 1)
			for round := range 6 {
				var f api.Errno
				for _, m := range append(ofEachKind(1, 1+round%3), data(1, 0, 2, 2, end(1)), data(1, 0, 3, 1, end(0))) {
					c, f = coord.Hear(c, m)
					must(t, f)
				}
				c, _, f = coord.Tick(c)
				must(t, f)
				if r, ok := coord.Report(c, 1); !is || !ok || !same(r, want) || r.Err == api.OK || worker.Knows(c.Worker, 1) != 2 {
					t.Errorf("%v, that was %v", r, want)
				}
			}
			isQuiet(t, true, c)
		}
	}
}
