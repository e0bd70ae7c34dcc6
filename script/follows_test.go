package script_test

import (
	"slices"
	"strings"
	"testing"

	"bowsprit/api"
	"bowsprit/place"
	"bowsprit/script"
	"bowsprit/world"
)

// chanceLayout is a catalog, a database of it, and that laid over some nodes.
func (m *maker) chanceLayout(t *testing.T) (api.Catalog, api.Base, api.Layout) {
	t.Helper()
	c := m.tables()
	b := m.base(c)
	l, e := place.Lay(c, b, 1+m.Intn(5), m.Perm(5))
	must(t, e)
	return c, b, l
}

// befalls is what becomes of a world by an event of a script.
func befalls(t *testing.T, w api.World, e api.Event) api.World {
	t.Helper()
	if e.Kind != api.EvRounds {
		w, _ = world.Do(w, e)
		return w
	}
	w, why := world.Rounds(w, e.At)
	must(t, why)
	return w
}

// chanceScript is one of so many events, of which many do something to what those ahead have come to.
func (m *maker) chanceScript(t *testing.T, count int) api.Script {
	t.Helper()
	c, _, l := m.chanceLayout(t)
	s := api.Script{Catalog: c, Layout: l}
	w, e := world.New(c, l)
	must(t, e)
	for n := range count {
		event := m.event(w)
		if n == 0 {
			event = m.submitted(c)
		}
		w = befalls(t, w, event)
		s.Events = append(s.Events, event)
	}
	return copyOf(s)
}

// farScript is one whose events have whichever numbers they may have.
func (m *maker) farScript(t *testing.T, count int) api.Script {
	t.Helper()
	s := m.chanceScript(t, 1)
	for range count {
		e := api.Event{Kind: 1 + m.Intn(9)}
		fields, most := counting(e.Kind)
		for k, name := range fields {
			n := []int64{0, 1, most[k], most[k] - 1, m.Int63n(most[k] + 1), m.Int63n(9)}[m.Intn(6)]
			e, _ = setField(e, name, n)
		}
		if e.Kind == api.EvSubmit {
			e = submit(m.one("", " ", "SELECT", m.submitted(s.Catalog).Text, "'", "a ' b"))
		}
		s.Events = append(s.Events, e)
	}
	return s
}

// P30.4: over catalogs, layouts, texts and events of chance: Parse of Print is the script, Print of Parse the text.
func TestFollowsText(t *testing.T) {
	m := newMaker(3041)
	for n := range 120 {
		s := m.farScript(t, m.Intn(30))
		if n%4 == 0 {
			s = m.chanceScript(t, 20)
		}
		mayBe(t, s)
		text, e := script.Print(s)
		must(t, e)
		isText(t, s, text)
		read, at, e := script.Parse(text)
		if must(t, e); at != 0 || !script.Same(read, s) {
			t.Fatalf("%q: %v, not %v", text, read, s)
		}
		again, e := script.Print(read)
		if must(t, e); again != text {
			t.Fatalf("%q, not %q", again, text)
		}
	}
}

// P30.4, P7: over catalogs, layouts, texts and events of chance: Run and Play tell the same, and by rule; the same script tells the same, twice; with events more the lines of those ahead stay, and what is reported.
func TestFollowsTold(t *testing.T) {
	t.Parallel()
	met := map[string]int{}
	for seed := range int64(7) {
		m := newMaker(3050 + seed)
		s := m.chanceScript(t, 50)
		s.Events = append(s.Events, rounds(40))
		text, e := script.Print(s)
		must(t, e)
		played := asRule(t, "Play", given{Script: s})
		must(t, played.Err)
		again, e := script.Play(copyOf(s))
		must(t, e)
		ran, at, e := script.Run(text)
		must(t, e)
		if ran != played.Text || again != played.Text || at != 0 {
			t.Fatalf("%q: %q, %q, %q", text, ran, played.Text, again)
		}
		for range 3 {
			n := m.Intn(len(s.Events) + 1)
			ahead := asRule(t, "Play", given{Script: of(s, func(s *api.Script) { s.Events = s.Events[:n] })})
			replies := strings.SplitAfter(played.Text, "\n")[:n]
			if !strings.HasPrefix(ahead.Text, strings.Join(replies, "")) {
				t.Fatalf("%q, not as in %q", ahead.Text, played.Text)
			}
			staysTold(t, ahead.Text, played.Text)
		}
		for _, line := range strings.Split(played.Text, "\n") {
			met[strings.SplitAfter(line, " ")[0]]++
		}
	}
	if met["0 "] < 200 || met["4 "] < 10 || met["2 "] < 5 || met["query "] < 12 || met["ok "] < 4 || met["error "] < 2 {
		t.Error(met)
	}
}

// reportsOf are what a transcript tells of each query, by epochs.
func reportsOf(text string) (l []string) {
	for _, part := range strings.Split("\n"+text, "\nquery ")[1:] {
		_, report, _ := strings.Cut(strings.TrimSuffix(part, "\n"), "\n")
		l = append(l, report)
	}
	return l
}

// staysTold holds that what a transcript tells of queries that are over another one tells, too, which goes on.
func staysTold(t *testing.T, ahead, behind string) {
	t.Helper()
	later := reportsOf(behind)
	for k, report := range reportsOf(ahead) {
		if report != "runs" && later[k] != report {
			t.Fatalf("of %v first %q, then %q", k+1, report, later[k])
		}
	}
}

// spoils is a text with one of its lines spoiled, or with two of them in each other's place.
func (m *maker) spoils(text, other string) string {
	l := strings.SplitAfter(text, "\n")
	l = l[:len(l)-1]
	k := m.Intn(len(l))
	line, at := l[k], m.Intn(len(l[k]))
	switch m.Intn(9) {
	case 0:
		l[k] = line[:at] + line[at+1:]
	case 1:
		l[k] = line[:at] + string([]byte{byte(m.Intn(256))}) + line[at:]
	case 2:
		l[k] = line[:at] + m.one(" ", "0", "1", "'", "-", "a", "\n") + line[at:]
	case 3:
		l[k] = line[:at] + m.one(" ", "0", "9", "'", "-", "b", "\n", "\x7f") + line[at+1:]
	case 4:
		n := m.Intn(len(l))
		l[k], l[n] = l[n], l[k]
	case 5:
		l = slices.Delete(l, k, k+1)
	case 6:
		l = slices.Insert(l, k, l[m.Intn(len(l))])
	case 7:
		l = slices.Insert(l, k, m.one("\n", "nodes 1\n", "tick 0\n", "table z a int\n", "row 1 t0 1\n", "row 1 t0 NULL\n", "rounds 101\n", "submit\n"))
	default:
		all := strings.SplitAfter(other, "\n")
		l[k] = all[m.Intn(len(all))]
	}
	return strings.Join(l, "")
}

// P30.4: lines spoiled in one place or several: a text that is wrong from a line on is wrong there, whatever stands behind that line.
func TestFollowsWrong(t *testing.T) {
	t.Parallel()
	m := newMaker(3042)
	met, tried := tally{}, 0
	for range 40 {
		text, other := writtenByRule(m.farScript(t, 8)), writtenByRule(m.farScript(t, 8))
		for range 20 {
			spoiled := text
			for range 1 + m.Intn(3) {
				if strings.HasSuffix(spoiled, "\n") {
					spoiled = m.spoils(spoiled, other)
				}
			}
			got := asRule(t, "Parse", given{Text: spoiled})
			met[got.Err]++
			end := strings.Index(spoiled[min(got.At, len(spoiled)):], "\n") + 1
			if got.Err == api.OK || end == 0 {
				continue
			}
			tried++
			up := spoiled[:got.At+end]
			all := []string{"", "\n", "x", text, other, spoiled[len(up):] + "?", "nodes 1\n", "tick 0\n", m.spoils(text, other)}
			for range 4 {
				isWrong(t, got.At, up+all[m.Intn(len(all))])
			}
		}
	}
	met.metAll(t, api.OK, api.ErrScript)
	if met[api.OK] < 60 || met[api.ErrScript] < 400 || tried < 400 {
		t.Error(met, tried)
	}
}

// P30.4: each beginning of a script's text, line by line: the beginning of a script, or wrong at its length.
func TestFollowsEachLine(t *testing.T) {
	m := newMaker(3043)
	for range 10 {
		s := m.chanceScript(t, 12)
		text := writtenByRule(s)
		at, isLaid := 0, false
		for _, line := range strings.SplitAfter(text, "\n") {
			at += len(line)
			isLaid = isLaid || strings.HasPrefix(line, "nodes ")
			if !isLaid {
				isWrong(t, at, text[:at])
				continue
			}
			if got := asRule(t, "Parse", given{Text: text[:at]}); got.Err != api.OK || writtenByRule(got.Script) != text[:at] {
				t.Fatalf("%q: %v", text[:at], got)
			}
		}
	}
}
