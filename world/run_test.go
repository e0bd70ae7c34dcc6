package world_test

import (
	"slices"
	"testing"

	"bowsprit/api"
	"bowsprit/coord"
)

// P29.3: Run of no event, and of some: the world behind all of them, and the reply to each, errors among them.
func TestRun(t *testing.T) {
	g := given{Catalog: tables(), Layout: parts()}
	if got := asRule(t, "Run", g); !same(got, answer{World: plain()}) {
		t.Error(got)
	}
	g.Events = []api.Event{submit(ofU), tick(0), {}, cancel(2), submit(unwise), come(4), come(1), tick(9), tick(1), twin(5), drop(0, 3), spoilt(8, 0, 1), come(8), lose(99), {Kind: -7}, submit(""), cancel(1), cancel(1)}
	got := asRule(t, "Run", g)
	want := []api.Reply{{N: 1}, {}, {Err: api.ErrEvent}, {Err: api.ErrNone}, {N: 2}, {}, {}, {Err: api.ErrArg}, {}, {N: 10}, {N: 2}, {}, {}, {Err: api.ErrNone}, {Err: api.ErrEvent}, {N: 3}, {}, {Err: api.ErrReported}}
	if !same(got.Replies, want) {
		t.Error(got.Replies)
	}
	w := plain()
	for k, e := range g.Events {
		one := asRule(t, "Do", given{World: w, Event: e})
		if w = one.World; one.Reply != want[k] {
			t.Error(k, one.Reply)
		}
	}
	if !same(w, got.World) || got.Err != api.OK {
		t.Error(got)
	}
}

// P29.3: Run: MaxEvents events, and one more, whatever these are.
func TestRunOfMany(t *testing.T) {
	for _, e := range []api.Event{{}, tick(2), cancel(1), come(1), submit(unwise)} {
		g := given{Catalog: tables(), Layout: parts(), Events: slices.Repeat([]api.Event{e}, api.MaxEvents)}
		got := asRule(t, "Run", g)
		if got.Err != api.OK || len(got.Replies) != api.MaxEvents {
			t.Error(e, got.Err, len(got.Replies))
		}
		g.Events = append(g.Events, e)
		refuses(t, "Run", g, api.ErrLong)
	}
	events := slices.Repeat([]api.Event{tick(0)}, 400)
	events[0] = submit(ofU)
	got := asRule(t, "Run", given{Catalog: tables(), Layout: parts(), Events: events})
	if n := got.World.Net; n.Sent != 399*6 || len(n.Parcels) != 399*6 {
		t.Error(n.Sent)
	}
}

// P29.3: Run: ErrLong goes ahead of New's errors, and these ahead of all events.
func TestRunOfErrors(t *testing.T) {
	many := make([]api.Event, api.MaxEvents+1)
	for _, c := range append(wrongCatalogs(), tables()) {
		for _, l := range append(wrongLayouts(), astray()) {
			g := given{Catalog: c, Layout: l}
			made := asRule(t, "New", g)
			if made.Err == api.OK {
				t.Error(c, l)
			}
			refuses(t, "Run", g, made.Err)
			g.Events = many[1:]
			refuses(t, "Run", g, made.Err)
			g.Events = []api.Event{submit(ofU), {Kind: 9}}
			refuses(t, "Run", g, made.Err)
			g.Events = many
			refuses(t, "Run", g, api.ErrLong)
		}
	}
	refuses(t, "Run", given{Catalog: tables(), Layout: parts(), Events: many}, api.ErrLong)
}

// P29.3: Rounds: -1, 0, 1, MaxRounds and one more.
func TestRounds(t *testing.T) {
	for _, w := range worlds() {
		for _, n := range append([]int{-1, api.MaxRounds + 1, api.MaxRounds + 2}, far()...) {
			refuses(t, "Rounds", given{World: w, N: n}, api.ErrArg)
		}
		if got := rounds(t, w, 0); !same(got, w) {
			t.Error(got)
		}
		most := rounds(t, w, api.MaxRounds)
		if !same(most, rounds(t, w, 60)) || !coord.Quiet(most.Coord) {
			t.Error(most)
		}
		was := w
		for n := range 12 {
			if next := rounds(t, was, 1); !same(next, rounds(t, w, n+1)) || len(next.Net.Parcels) > 0 {
				t.Error(n, next)
			} else {
				was = next
			}
		}
	}
}

// P29.3: a fair round is these events: each node ticks, from 0 on; then the first parcel comes, as long as there is one. What is answered in that round comes in it, behind what was sent ahead of it.
func TestRoundIsEvents(t *testing.T) {
	w := goes(t, plain(), submit(ofU), submit(ofBoth))
	for range 10 {
		by := goes(t, w, tick(0), tick(1), tick(2), tick(3))
		for len(by.Net.Parcels) > 0 {
			by = goes(t, by, come(by.Net.Parcels[0].Num))
		}
		if w = rounds(t, w, 1); !same(w, by) {
			t.Fatal(w)
		}
	}
	reports(t, w, 1, came("3 / 5 / 9", "c"))
	w = rounds(t, goes(t, plain(), submit(ofU)), 1)
	if w.Net.Sent != 9 || w.Coord.Entries[0].Has != setOf(1, 2, 3) { // six were sent by the tick, and three that say that they have it, in the same round
		t.Error(w.Net.Sent, w.Coord)
	}
}

// P29.3: what was on its way ahead of a round comes in it, ahead of all that the ticks sent, in its order; the latter one of two that say something else is none the better.
func TestOrderOfRounds(t *testing.T) {
	drops := message(api.MsgDrop, 1, 0, 2)
	for _, isFirst := range []bool{true, false} {
		l := []api.Parcel{parcel(1, 0, 2, planFor(1, 2, ofU)), parcel(2, 0, 2, drops)}
		if isFirst {
			l[0].Bytes, l[1].Bytes = l[1].Bytes, l[0].Bytes
		}
		w := rounds(t, with(begun(), l...), 1)
		if w.Net.Sent != 2+6+5 || w.Workers[1].Gone != 2 || w.Workers[1].Has != 0 || (w.Coord.Entries[0].Has == setOf(1, 3)) != isFirst {
			t.Error(isFirst, w.Net.Sent, w.Workers[1], w.Coord.Entries)
		}
	}
}

// P29.3: a round of a net that takes no more: all that is on its way comes, and what is said meanwhile.
func TestRoundOfFullNet(t *testing.T) {
	w := of(begun(), func(w *api.World) { w.Net = netOf(many(3000, 1)...) })
	after := rounds(t, w, 1)
	if after.Net.Sent != 3009 || len(after.Net.Parcels) > 0 || after.Coord.Entries[0].Has != setOf(1, 2, 3) {
		t.Error(after.Net.Sent, after.Coord)
	}
	w.Net = netOf(many(api.MaxWay, 1)...)
	got := calls()[slices.Index(names(), "Rounds")](given{World: w, N: 1})
	if n := got.World.Net; got.Err != api.OK || n.Sent != api.MaxWay || len(n.Parcels) > 0 { // what the ticks say is lost
		t.Error(got.Err, n.Sent)
	}
	w.Net = api.Net{Sent: api.MaxSent - 4}
	after = rounds(t, w, 3)
	if after.Net.Sent != api.MaxSent || after.Workers[0].Has != 2 || after.Workers[1].Has != 0 { // the three of its streams, and one plan
		t.Error(after.Net, after.Workers)
	}
}
