package world_test

import (
	"slices"
	"testing"

	"bowsprit/api"
	"bowsprit/coord"
	"bowsprit/denote"
	"bowsprit/lower"
	"bowsprit/mean"
	"bowsprit/prop"
	"bowsprit/query"
	"bowsprit/world"
)

// asked is a text that was submitted, what it is to come to, and what was reported of it.
type asked struct {
	text      string
	static    api.Report // of what does not compile, why, and where
	program   api.Program
	means     api.Mean
	rows      []api.Row // what the text comes to over the whole database
	faults    bool      // or that it faults there
	batches   map[int]int
	cancelled bool
	reported  bool
	report    api.Report
}

// play is a world to which things befall by chance, and what was asked of it.
type play struct {
	*maker
	catalog api.Catalog
	base    api.Base
	layout  api.Layout
	world   api.World
	asked   []*asked
	odds    [10]int // how often each thing is done
	seen    *seen
}

// seen is what befell plays, in all.
type seen struct {
	steps, statics, rows, faults, overs, cancels, lost, dropped, twins, spoiled, late, ended int
}

func newPlay(t *testing.T, seed int64, s *seen) *play {
	t.Helper()
	p := &play{maker: newMaker(seed), seen: s}
	p.catalog, p.base, p.layout = p.chanceLayout(t)
	if p.oneIn(2) { // many pairs
		p.base.Tables[0] = slices.Repeat(p.base.Tables[0], 3)
		p.base.Tables[0] = p.base.Tables[0][:min(api.MaxTable, len(p.base.Tables[0]))]
		p.layout = p.laidOut(t)
	}
	w, e := world.New(p.catalog, p.layout)
	must(t, e)
	p.world = w
	for k := range p.odds {
		p.odds[k] = 1 + p.Intn(6)
	}
	p.odds[0] += 8           // they tick
	p.odds[1+p.Intn(2)] += 8 // much comes, in order or not
	if p.oneIn(3) {
		p.odds[3+p.Intn(4)] *= 3 // much is lost, doubled, or spoiled
	}
	return p
}

// newText is one of chance; now and then one that joins each row with each, or none at all.
func (p *play) newText() string {
	switch {
	case p.oneIn(6):
		return "SELECT p.a FROM t0 p JOIN t0 q ON TRUE JOIN t0 r ON " + p.one("TRUE", "p.a = r.a", "1 = 1")
	case p.oneIn(8):
		return p.one("SELECT 1 / (COUNT(*) - 2) FROM t0", "SELECT COUNT(*) / (COUNT(*) - COUNT(*)) FROM t0", "SELECT MIN(p.a) FROM t0 p GROUP BY p.a HAVING 3 / (COUNT(*) - 1) > 0")
	case p.oneIn(12):
		return p.one("", "SELECT", "SELECT a FROM", "SELECT zz FROM t0", "SELECT a FROM zz", "SELECT a FROM t0 WHERE", "SELECT a FROM t0 ORDER BY 9", "?")
	}
	return p.text(p.catalog)
}

// asks is what a text is to come to: P4: its plan is sound, and means what the text comes to, wherever the rows lie.
func (p *play) asks(t *testing.T, text string) *asked {
	t.Helper()
	q := &asked{text: text}
	x, at, e := lower.Query(p.catalog, text)
	if e != api.OK {
		q.static = failed(e, at)
		return q
	}
	if q.program, at, e = query.Compile(p.catalog, text); e != api.OK {
		q.static = failed(e, at)
		return q
	}
	if q.rows, e = denote.Rows(x.Logic, p.base); e != api.OK && e != api.ErrFault {
		t.Fatal(text, e)
	}
	q.faults = e == api.ErrFault
	if _, _, e := prop.Check(q.program.Plan, p.catalog); e != api.OK {
		t.Fatalf("the plan of %q: %v", text, e)
	}
	q.means, e = mean.Mean(q.program.Plan, p.catalog, p.layout)
	must(t, e)
	if !q.means.Over && (q.means.Fault != q.faults || !same(q.means.Rows, q.rows)) {
		t.Fatalf("%q means %v, not %v, %v", text, q.means, q.rows, q.faults)
	}
	q.batches = map[int]int{}
	for frag := range q.program.Plan.Frags {
		for from := range len(p.layout.Parts) + 1 {
			for to := range len(p.layout.Parts) + 1 {
				if l, e := mean.Stream(q.program.Plan, p.catalog, p.layout, api.Stream{Frag: frag, From: from, To: to}); e == api.OK {
					q.batches[frag] = max(q.batches[frag], (len(l)+api.MaxBatch-1)/api.MaxBatch+1)
				}
			}
		}
	}
	return q
}

// does has an event befall the world.
func (p *play) does(t *testing.T, e api.Event) api.Reply {
	t.Helper()
	w, r := world.Do(p.world, e)
	p.world = w
	p.isSound(t)
	return r
}

// isSound holds P1 to P3 and P6 of a world, wherever it stands: what is reported stays; what comes to be reported is what it is to be.
func (p *play) isSound(t *testing.T) {
	t.Helper()
	if len(p.world.Coord.Entries) != len(p.asked) {
		t.Fatal(p.world.Coord.Entries)
	}
	for k, q := range p.asked {
		l := p.world.Coord.Entries[k].Life
		is := l.State == api.LifeOver
		switch {
		case q.reported && (!is || !same(l.Report, q.report)):
			t.Fatalf("%q: %v, that was %v", q.text, l, q.report)
		case !q.reported && is:
			q.reported, q.report = true, copyOf(l.Report)
			p.isRight(t, q)
		}
	}
}

// isRight holds a report, as soon as it is there.
func (p *play) isRight(t *testing.T, q *asked) {
	t.Helper()
	is := false
	switch q.report.Err {
	case api.OK: // P1
		p.seen.rows++
		is = q.static.Err == api.OK && !q.faults && !q.cancelled && same(q.report, api.Report{Names: q.program.Names, Rows: q.rows}) && mean.May(q.means, q.report.Rows, api.OK)
	case api.ErrFault: // P3
		p.seen.faults++
		is = q.static.Err == api.OK && q.means.Fault && !q.cancelled && same(q.report, failed(api.ErrFault, 0))
	case api.ErrOver:
		p.seen.overs++
		is = q.static.Err == api.OK && q.means.Over && !q.cancelled && same(q.report, failed(api.ErrOver, 0))
	case api.ErrCancel: // P6
		p.seen.cancels++
		is = q.static.Err == api.OK && q.cancelled && same(q.report, failed(api.ErrCancel, 0))
	default: // P2
		p.seen.statics++
		is = q.static.Err != api.OK && same(q.report, q.static)
	}
	if !is {
		t.Fatalf("%q: %v, not %v, %v, %v", q.text, q.report, q.static, q.means, q.rows)
	}
}

// submits has a text submitted. P2: what is wrong is reported at once, all else is not.
func (p *play) submits(t *testing.T) {
	t.Helper()
	q := p.asks(t, p.newText())
	if len(p.asked) == api.MaxEpochs {
		if r := p.does(t, submit(q.text)); r.Err != api.ErrFull {
			t.Fatal(r)
		}
		return
	}
	p.asked = append(p.asked, q)
	if r := p.does(t, submit(q.text)); r != (api.Reply{N: len(p.asked)}) || q.reported != (q.static.Err != api.OK) {
		t.Fatalf("%q: %v, %v", q.text, r, q.report)
	}
}

// cancels has a query cancelled, whether it runs or not.
func (p *play) cancels(t *testing.T) {
	t.Helper()
	epoch, want := p.Intn(len(p.asked)+2), api.ErrNone
	if epoch > 0 && epoch <= len(p.asked) {
		if q := p.asked[epoch-1]; q.reported {
			want = api.ErrReported
		} else {
			want, q.cancelled = api.OK, true
		}
	}
	if r := p.does(t, cancel(epoch)); r.Err != want || want == api.OK && !p.asked[epoch-1].reported {
		t.Fatal(epoch, r, want)
	}
}

// pick is the Num of a parcel on its way; one that was sent long ago is late.
func (p *play) pick(isFirst bool) uint64 {
	l := p.world.Net.Parcels
	if len(l) == 0 {
		return 0
	}
	k := 0
	if !isFirst {
		k = p.Intn(len(l))
	}
	if x := l[k]; len(x.Bytes) > 3 && x.Bytes[0] == api.MsgData && int(x.Bytes[3]) <= len(p.asked) && p.asked[x.Bytes[3]-1].reported {
		p.seen.late++
	}
	return l[k].Num
}

// befalls is one thing that is done, of a kind.
func (p *play) befalls(t *testing.T, kind int) {
	t.Helper()
	p.seen.steps++
	switch {
	case kind == 0:
		p.does(t, tick(p.Intn(len(p.layout.Parts)+1)))
	case kind == 1 || kind == 2: // the next ones come, or others
		for range 1 + p.Intn(10) {
			p.does(t, come(p.pick(kind == 1)))
		}
	case kind == 3:
		for range p.Intn(6) {
			p.seen.lost++
			p.does(t, lose(p.pick(p.oneIn(2))))
		}
	case kind == 4 && p.oneIn(3):
		p.seen.dropped += p.does(t, drop(p.Intn(len(p.layout.Parts)+1), p.Intn(len(p.layout.Parts)+1))).N
	case kind == 5:
		p.seen.twins++
		p.does(t, twin(p.pick(p.oneIn(3))))
	case kind == 6:
		for range p.Intn(4) {
			if r := p.does(t, spoilt(p.pick(p.oneIn(2)), p.Intn(20), byte(1+p.Intn(255)))); r.Err == api.OK {
				p.seen.spoiled++
			}
		}
	case kind == 7 && p.oneIn(2):
		p.submits(t)
	case kind == 8 && p.oneIn(4):
		p.cancels(t)
	case kind == 9 && p.oneIn(20):
		p.ends(t)
	}
}

// most is how many rounds a query takes at most, if nothing is lost: one to tell of it; behind one another each fragment's streams, of each as many as there are batches, and Again for each; and two to tell of a failure, and to drop it.
func (q *asked) most() int {
	all := 4
	for frag := range q.program.Plan.Frags {
		all += 1 + q.batches[frag]*(1+api.Again)
	}
	return all
}

// ends holds P5: from where the world stands each query is reported within its rounds; and then all is forgotten, by all nodes, and nothing is said any more.
func (p *play) ends(t *testing.T) {
	t.Helper()
	for count := 1; !p.isForgotten(); count++ {
		w, e := world.Rounds(p.world, 1)
		must(t, e)
		p.world = w
		p.isSound(t)
		most := 0
		for _, q := range p.asked {
			if most = max(most, q.most()); count > q.most() && !q.reported {
				t.Fatalf("%q does not end: %v", q.text, q.means)
			}
		}
		if count > most+5 {
			t.Fatalf("it is not forgotten: %v", p.world)
		}
	}
	p.seen.ended++
	w, e := world.Rounds(p.world, 3)
	if must(t, e); !same(w, p.world) {
		t.Fatalf("something goes on: %v", w)
	}
}

// isForgotten tells whether no node has anything of any query any more, and nothing is on its way.
func (p *play) isForgotten() bool {
	isBusy := func(x api.Worker) bool { return x.Has != 0 || len(x.Tasks) > 0 }
	return coord.Quiet(p.world.Coord) && len(p.world.Net.Parcels) == 0 && !isBusy(p.world.Coord.Worker) && !slices.ContainsFunc(p.world.Workers, isBusy)
}

// goesOn has so many things befall a world, and then holds that its queries end.
func (p *play) goesOn(t *testing.T, count int) {
	t.Helper()
	total := 0
	for _, n := range p.odds {
		total += n
	}
	p.submits(t)
	for range count {
		n, kind := p.Intn(total), 0
		for ; n >= p.odds[kind]; kind++ {
			n -= p.odds[kind]
		}
		p.befalls(t, kind)
	}
	p.ends(t)
	for k, q := range p.asked {
		if r, is := coord.Report(p.world.Coord, k+1); !is || !same(r, q.report) {
			t.Fatal(k, r, q.report)
		}
	}
}

// P1 to P6, over catalogs, layouts, texts and events of chance, of several queries at once.
func TestWhole(t *testing.T) {
	t.Parallel()
	var s seen
	for seed := range int64(24) {
		newPlay(t, 2960+seed, &s).goesOn(t, 110)
	}
	if s.steps < 2600 || s.statics < 12 || s.rows < 50 || s.faults < 3 || s.overs < 3 || s.cancels < 4 || s.lost < 300 || s.dropped < 30 || s.twins < 100 || s.spoiled < 50 || s.late < 6 || s.ended < 28 {
		t.Error(s)
	}
}
