package script_test

import (
	"slices"
	"strings"
	"testing"

	"bowsprit/api"
	"bowsprit/denote"
	"bowsprit/lower"
	"bowsprit/mean"
	"bowsprit/place"
	"bowsprit/query"
	"bowsprit/script"
	"bowsprit/world"
)

// asked is what a text that is submitted may be reported as.
type asked struct {
	text      string
	told      string // of what does not compile the error and its place; of what does all of its rows, or that it faults
	means     api.Mean
	isStatic  bool
	cancelled bool
}

// play is a script that is made event by event, and what was asked by it.
type play struct {
	*maker
	base   api.Base
	script api.Script
	world  api.World
	asked  []*asked
	odds   [9]int // how often each thing is done
	seen   *seen
}

// seen is what befell plays, in all.
type seen struct {
	events, statics, rows, faults, overs, cancels, refused int
}

func newPlay(t *testing.T, seed int64, s *seen) *play {
	t.Helper()
	p := &play{maker: newMaker(seed), seen: s}
	p.script.Catalog, p.base, p.script.Layout = p.chanceLayout(t)
	var e api.Errno
	if p.oneIn(2) { // many pairs
		p.base.Tables[0] = slices.Repeat(p.base.Tables[0], 3)
		p.base.Tables[0] = p.base.Tables[0][:min(api.MaxTable, len(p.base.Tables[0]))]
		p.script.Layout, e = place.Lay(p.script.Catalog, p.base, len(p.script.Layout.Parts), p.Perm(5))
		must(t, e)
	}
	p.world, e = world.New(p.script.Catalog, p.script.Layout)
	must(t, e)
	for k := range p.odds {
		p.odds[k] = 1 + p.Intn(4)
	}
	p.odds[7] = 2
	p.odds[0] += 6
	p.odds[1+p.Intn(2)] += 8
	return p
}

// newText is one of chance; now and then one that joins each row with each, one that may fault, or none at all.
func (p *play) newText() string {
	switch {
	case p.oneIn(7):
		return "SELECT p.a FROM t0 p JOIN t0 q ON TRUE JOIN t0 r ON " + p.one("TRUE", "p.a = r.a", "1 = 1")
	case p.oneIn(6):
		return p.one("SELECT 1 / (COUNT(*) - 2) FROM t0", "SELECT COUNT(*) / (COUNT(*) - COUNT(*)) FROM t0", "SELECT MIN(p.a) FROM t0 p GROUP BY p.a HAVING 3 / (COUNT(*) - 1) > 0")
	case p.oneIn(10):
		return p.one("", "SELECT", "SELECT a FROM", "SELECT zz FROM t0", "SELECT a FROM zz", "SELECT a FROM t0 WHERE", "SELECT a FROM t0 ORDER BY 9", "?", long(601))
	}
	return p.submitted(p.script.Catalog).Text
}

// asks is what a text may be reported as.
func (p *play) asks(t *testing.T, text string) *asked {
	t.Helper()
	q := &asked{text: text}
	x, at, e := lower.Query(p.script.Catalog, text)
	if e != api.OK {
		q.told, q.isStatic = reportByRule(api.Report{Err: e, At: at}), true
		return q
	}
	program, at, e := query.Compile(p.script.Catalog, text)
	if e != api.OK {
		q.told, q.isStatic = reportByRule(api.Report{Err: e, At: at}), true
		return q
	}
	rows, e := denote.Rows(x.Logic, p.base)
	q.told = reportByRule(api.Report{Err: e, Rows: rows})
	q.means, e = mean.Mean(program.Plan, p.script.Catalog, p.script.Layout)
	must(t, e)
	return q
}

// does has an event befall the world, and stand in the script.
func (p *play) does(t *testing.T, e api.Event) {
	t.Helper()
	if len(p.script.Events) < api.MaxPlayed {
		p.seen.events++
		p.script.Events = append(p.script.Events, e)
		p.world = befalls(t, p.world, e)
	}
}

// befalls is one thing that is done, of a kind.
func (p *play) befalls(t *testing.T, kind int) {
	t.Helper()
	switch {
	case kind == 0:
		p.does(t, tick(p.Intn(len(p.script.Layout.Parts)+1)))
	case kind == 1 || kind == 2: // the next one comes, or another
		for range 1 + p.Intn(4) {
			p.does(t, come(p.num(p.world)))
		}
	case kind == 3:
		p.does(t, lose(p.num(p.world)))
	case kind == 4:
		p.does(t, drop(p.Intn(len(p.script.Layout.Parts)+1), p.Intn(len(p.script.Layout.Parts)+1)))
	case kind == 5:
		p.does(t, twin(p.num(p.world)))
	case kind == 6:
		num := p.num(p.world)
		p.does(t, spoilt(num, p.at(p.world, num), byte(p.Intn(256))))
	case kind == 7:
		text := p.newText()
		if len(p.asked) < api.MaxEpochs {
			p.asked = append(p.asked, p.asks(t, text))
		}
		p.does(t, submit(text))
	default:
		epoch := p.Intn(len(p.asked) + 2)
		if 0 < epoch && epoch <= len(p.asked) && p.world.Coord.Entries[epoch-1].Life.State == api.LifeRuns {
			p.asked[epoch-1].cancelled = true
		}
		p.does(t, cancel(epoch))
	}
}

// made is a script of at least so many things that befall it, behind which packets come again.
func (p *play) made(t *testing.T, count int) api.Script {
	t.Helper()
	total := 0
	for _, n := range p.odds {
		total += n
	}
	p.befalls(t, 7)
	for range count {
		n, kind := p.Intn(total), 0
		for ; n >= p.odds[kind]; kind++ {
			n -= p.odds[kind]
		}
		p.befalls(t, kind)
	}
	p.does(t, rounds(api.MaxFair)) // P5: more than any of these texts asks for
	return p.script
}

// isRight holds P1 to P3, P5 and P6 of what is told of a query at the end.
func (p *play) isRight(t *testing.T, q *asked, got string) {
	t.Helper()
	is := false
	switch {
	case q.isStatic: // P2
		p.seen.statics++
		is = got == q.told
	case q.cancelled: // P6
		p.seen.cancels++
		is = got == "error 371 0\n"
	case got == "error 300 0\n": // P3
		p.seen.overs++
		is = q.means.Over
	case got == "error 140 0\n":
		p.seen.faults++
		is = q.means.Fault && (q.means.Over || got == q.told)
	default: // P1
		p.seen.rows++
		is = got == q.told && strings.HasPrefix(got, "ok ")
	}
	if !is {
		t.Fatalf("%q is told as %q, not as %q", q.text, got, q.told)
	}
}

// P7, and P1 to P6 as far as they are told: over catalogs, layouts, texts and events of chance, a script is its text; it tells the same whenever it is played; each query has its one report, that which its text comes to, which stays with events more.
func TestWhole(t *testing.T) {
	t.Parallel()
	var s seen
	for seed := range int64(22) {
		p := newPlay(t, 3070+seed, &s)
		made := p.made(t, 50)
		text, e := script.Print(made)
		must(t, e)
		read, at, e := script.Parse(text)
		if e != api.OK || at != 0 || !same(read, made) {
			t.Fatalf("%q: %v at %v, %v", text, e, at, read)
		}
		told, at, e := script.Run(text)
		if e != api.OK || at != 0 {
			t.Fatal(e, at)
		}
		for _, other := range []api.Script{made, read} {
			if again, e := script.Play(other); e != api.OK || again != told {
				t.Fatalf("%q, then %q: %v", told, again, e)
			}
		}
		reports := reportsOf(told)
		if len(reports) != len(p.asked) {
			t.Fatal(told, len(p.asked))
		}
		for k, q := range p.asked {
			p.isRight(t, q, reports[k]+"\n")
		}
		for n := 1; n < len(made.Events); n += 1 + len(made.Events)/2 {
			ahead, e := script.Play(of(made, func(s *api.Script) { s.Events = s.Events[:n] }))
			must(t, e)
			staysTold(t, ahead, told)
			l := strings.SplitAfter(told, "\n")
			if !slices.Equal(strings.SplitAfter(ahead, "\n")[:n], l[:n]) {
				t.Fatalf("%q, not as in %q", ahead, told)
			}
		}
		for _, line := range strings.Split(told, "\n")[:len(made.Events)] {
			if !strings.HasPrefix(line, "0 ") {
				s.refused++
			}
		}
	}
	if s.events < 1000 || s.statics < 6 || s.rows < 25 || s.faults < 2 || s.overs < 2 || s.cancels < 4 || s.refused < 40 {
		t.Error(s)
	}
}

// P7: what is told hangs on the script alone: not on what was played ahead of it, nor on what it was made of.
func TestToldAlone(t *testing.T) {
	text := small("submit SELECT c FROM u", "tick 0", "rounds 1", "submit SELECT COUNT(*) FROM u", "rounds 30")
	want := asRule(t, "Run", given{Text: text}).Text
	for _, other := range []string{small("submit SELECT c FROM u", "rounds 3"), "nodes 8\n", "", small("tick 0"), writtenByRule(plain())} {
		does("Run", given{Text: other})
		if got := does("Run", given{Text: text}); got.Text != want {
			t.Errorf("behind %q: %q, not %q", other, got.Text, want)
		}
	}
}
