package world_test

import (
	"slices"
	"testing"

	"bowsprit/api"
	"bowsprit/place"
	"bowsprit/world"
)

// chanceLayout is a catalog, a database of it, and that laid over some nodes.
func (m *maker) chanceLayout(t *testing.T) (api.Catalog, api.Base, api.Layout) {
	t.Helper()
	c := m.tables()
	b := m.base(c)
	l, e := place.Lay(c, b, 1+m.Intn(4), m.Perm(5))
	must(t, e)
	return c, b, l
}

// laidOut is a play's database, laid over as many nodes as it has.
func (p *play) laidOut(t *testing.T) api.Layout {
	t.Helper()
	l, e := place.Lay(p.catalog, p.base, len(p.layout.Parts), p.Perm(5))
	must(t, e)
	return l
}

// stays holds that reports that a world has are those that another one has, which comes of it.
func stays(t *testing.T, w, after api.World) {
	t.Helper()
	for k, x := range w.Coord.Entries {
		if x.Life.State == api.LifeOver && !same(x.Life, after.Coord.Entries[k].Life) {
			t.Fatalf("the report of %v: %v, that was %v", k+1, after.Coord.Entries[k].Life, x.Life)
		}
	}
}

// isRound holds that what Rounds says is the world behind these events, done one by one.
func isRound(t *testing.T, w api.World, n int) {
	t.Helper()
	got, e := world.Rounds(w, n)
	must(t, e)
	want := w
	for range n {
		for node := range len(w.Workers) + 1 {
			want, _ = world.Do(want, tick(node))
		}
		for len(want.Net.Parcels) > 0 {
			want, _ = world.Do(want, come(want.Net.Parcels[0].Num))
		}
	}
	if !same(got, want) || n > 0 && len(got.Net.Parcels) > 0 {
		t.Fatalf("behind %v rounds: %v, not %v", n, got, want)
	}
	stays(t, w, got)
	must(t, world.Check(got))
}

// P29.4: over catalogs, layouts, texts and events of chance: what comes may be, and is as it is by rule; the layout stays; reports stay; the same event does the same; a world behind Rounds is the one behind these events; and Run comes to all of that, and of a prefix to a prefix.
func TestFollows(t *testing.T) {
	t.Parallel()
	met, reported := tally{}, 0
	for seed := range int64(10) {
		m := newMaker(2940 + seed)
		c, _, l := m.chanceLayout(t)
		w, e := world.New(c, l)
		must(t, e)
		was := []api.World{w}
		var events []api.Event
		var replies []api.Reply
		for step := range 80 {
			event := m.event(w)
			if step == 0 || m.oneIn(60) {
				event = submit(m.text(c))
			}
			got := calls()[slices.Index(names(), "Do")](given{World: w, Event: event})
			if must(t, world.Check(got.World)); m.oneIn(8) {
				asRule(t, "Do", given{World: w, Event: event})
			}
			again, r := world.Do(w, event)
			if !same(again, got.World) || r != got.Reply {
				t.Fatalf("%v: %v, then %v", event, got.Reply, r)
			}
			met[got.Err]++
			if own, e := world.Layout(got.World); e != api.OK || !same(own, l) {
				t.Fatalf("%v: the layout is %v, not %v", event, own, l)
			}
			stays(t, w, got.World)
			if w = got.World; m.oneIn(60) {
				isRound(t, w, m.Intn(2))
			}
			events, replies, was = append(events, event), append(replies, r), append(was, w)
		}
		ran := asRule(t, "Run", given{Catalog: c, Layout: l, Events: events})
		if !same(ran, answer{World: w, Replies: replies}) {
			t.Fatalf("%v: %v, not %v", events, ran.Replies, replies)
		}
		for range 4 {
			n := m.Intn(len(events) + 1)
			if got := asRule(t, "Run", given{Catalog: c, Layout: l, Events: events[:n]}); !same(got, answer{World: was[n], Replies: replies[:n]}) {
				t.Fatalf("%v: %v, not %v", events[:n], got.Replies, replies[:n])
			}
		}
		isRound(t, w, int(seed%4)%3)
		last, e := world.Rounds(w, 60)
		must(t, e)
		stays(t, w, last)
		reported += len(slices.DeleteFunc(copyOf(last.Coord.Entries), func(x api.Entry) bool { return x.Life.State == api.LifeRuns }))
		if reported < 1 {
			t.Fatal(last.Coord)
		}
	}
	if met[api.OK] < 500 || met[api.ErrNone] < 12 || met[api.ErrArg] < 12 || met[api.ErrEvent] < 10 || reported < 12 {
		t.Error(met, reported)
	}
}

// P29.4: two worlds that are the same go the same way, however they came there; worlds that are not the same at one place may go another.
func TestSameWay(t *testing.T) {
	first := reached(plain(), submit(ofU), tick(0), come(4), come(5))
	second := reached(plain(), submit(ofU), tick(0), come(4), come(5), twin(1))
	isSame(t, false, first, second)
	second = reached(second, lose(9))
	if first.Net.Sent++; !same(first, second) {
		t.Fatal(first.Net, second.Net)
	}
	isSame(t, true, first, second)
	for range 6 {
		first, second = rounds(t, first, 1), rounds(t, second, 1)
		isSame(t, true, first, second)
	}
}
