package query_test

import (
	"slices"
	"testing"

	"bowsprit/api"
	"bowsprit/denote"
	"bowsprit/lower"
	"bowsprit/mean"
	"bowsprit/place"
	"bowsprit/prop"
)

func must(t *testing.T, e api.Errno) {
	t.Helper()
	if e != api.OK {
		t.Fatal(e)
	}
}

// P27.4: a text that compiles, over catalogs of chance, has a plan that may be, and is sound, whose columns are as many as its Names; and so has the life of it.
func TestPlansOfTexts(t *testing.T) {
	m := newMaker(271)
	met, most := tally{}, 0
	for range 3500 {
		c := m.tables()
		text := m.text(c)
		got := asRule(t, "Compile", given{Catalog: c, Text: text})
		met[got.Err]++
		begin := asRule(t, "Begin", given{Catalog: c, Text: text, Epoch: 1 + m.Intn(api.MaxEpochs)})
		if begin.Err != api.OK || !same(begin.Life.Program, got.Program) || begin.Life.Report.Err != got.Err || begin.Life.Report.At != got.At {
			t.Errorf("%q: %v, %v", text, got, begin)
		}
		if got.Err != api.OK {
			continue
		}
		p := got.Program
		most = max(most, len(p.Plan.Frags))
		_, _, e := prop.Check(p.Plan, c)
		_, _, f := prop.Sound(p.Plan, c)
		kinds, g := prop.Columns(p.Plan)
		if e != api.OK || f != api.OK || g != api.OK || len(kinds) != len(p.Names) || len(kinds) == 0 {
			t.Errorf("%q: %v, %v, %v, %v of %v", text, e, f, g, kinds, p)
		}
	}
	if met[api.OK] < 1800 || most < 8 {
		t.Error(met, most)
	}
	for _, e := range []api.Errno{api.ErrLong, api.ErrLex, api.ErrParse, api.ErrName, api.ErrTwice, api.ErrAgg, api.ErrGroup, api.ErrKind, api.ErrUnion} {
		if met[e] == 0 {
			t.Error(e, met)
		}
	}
}

// P27.1, P27.4: what the plan of a text comes to over a layout, gathered, is what the text says of the whole database, before its tree is rewritten, or planned; and ends a life of it.
func TestRowsOfTexts(t *testing.T) {
	m := newMaker(272)
	faults, rows := 0, 0
	for range 1500 {
		c := m.tables()
		text := m.text(c)
		life := asRule(t, "Begin", given{Catalog: c, Text: text, Epoch: 3}).Life
		if life.State != api.LifeRuns {
			continue
		}
		asked, _, e := lower.Query(c, text)
		must(t, e)
		b := m.base(c)
		want, e := denote.Rows(asked.Logic, b)
		l, f := place.Lay(c, b, 1+m.Intn(3), m.Perm(5))
		must(t, f)
		got, f := mean.Mean(life.Program.Plan, c, l)
		must(t, f)
		switch {
		case got.Over || e == api.ErrLong:
		case e == api.ErrFault:
			faults++
			if !got.Fault {
				t.Errorf("%q over %v: %v", text, b, got)
			}
			ends(t, "Fail", given{Life: life, Err: e}, failed(e, 0))
		case e != api.OK || got.Fault || !same(got.Rows, want):
			t.Errorf("%q over %v: %v, not %v, %v", text, b, got, want, e)
		default:
			rows += len(want)
			done := ends(t, "Rows", given{Life: life, Rows: got.Rows}, has(want, asked.Names...))
			if s := asRule(t, "Text", given{Life: done}); s.Err != api.OK || len(s.Text) < 5 {
				t.Errorf("%q: %v", text, s)
			}
		}
	}
	if faults < 50 || rows < 2000 {
		t.Error(faults, rows)
	}
}

// P27.4: lives of chance, of which whatever is asked: each has one report at most, and stays as it is from then on.
func TestOneReport(t *testing.T) {
	m := newMaker(273)
	met, ended := map[string]tally{}, 0
	for range 3000 {
		l := m.life()
		if m.oneIn(10) {
			l, _ = variant(l, m.Intn(things(l)))
		}
		reports := 0
		if isLifeByRule(l) && l.State == api.LifeOver {
			reports++
		}
		for range 12 {
			was := copyOf(l)
			name := ending()[m.Intn(3)]
			g := given{Life: l, Rows: m.rows(len(l.Program.Names)), Err: []api.Errno{api.ErrFault, api.ErrOver, api.ErrCancel, api.OK}[m.Intn(4)]}
			if m.oneIn(2) {
				g.Rows = m.rows(m.Intn(4))
			}
			got := asRule(t, name, g)
			if met[name] == nil {
				met[name] = tally{}
			}
			met[name][got.Err]++
			if got.Err == api.OK {
				reports++
				ended++
				l = got.Life
				if l.Epoch != was.Epoch || was.State != api.LifeRuns {
					t.Errorf("%s of %v: %v", name, was, l)
				}
			} else if !same(l, was) {
				t.Errorf("%s of %v: it is %v", name, was, l)
			}
			asRule(t, "Text", given{Life: l})
			asRule(t, "Same", given{Life: l, Other: was})
		}
		if reports > 1 {
			t.Errorf("%v has %v reports", l, reports)
		}
	}
	met["Rows"].metAll(t, api.OK, api.ErrLife, api.ErrReported, api.ErrArg)
	met["Fail"].metAll(t, api.OK, api.ErrLife, api.ErrReported, api.ErrArg)
	met["Cancel"].metAll(t, api.OK, api.ErrLife, api.ErrReported)
	if ended < 500 {
		t.Error(ended, met)
	}
}

// P27.1: no text within the limits of the grammar comes to a plan that is too long: this one has as much of each as may be.
func TestGreatestPlan(t *testing.T) {
	c := cat(tab("t", "a int b int"))
	one := "SELECT DISTINCT COUNT(*) FROM t JOIN t x ON t.a = x.a JOIN t y ON t.b = y.b WHERE t.a > 1 AND x.b < 1 AND y.a = t.b GROUP BY t.a HAVING COUNT(*) > 1"
	text := one + " UNION ALL " + one + " UNION ALL " + one + " ORDER BY 1 LIMIT 9"
	got := asRule(t, "Compile", given{Catalog: c, Text: text})
	most := slices.MaxFunc(got.Program.Plan.Frags, func(a, b api.Frag) int { return len(a.Nodes) - len(b.Nodes) })
	if got.Err != api.OK || len(got.Program.Plan.Frags) != 20 || len(most.Nodes) > api.MaxSteps/2 {
		t.Error(got.Err, len(got.Program.Plan.Frags), len(most.Nodes))
	}
}
