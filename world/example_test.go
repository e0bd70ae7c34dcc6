package world_test

import (
	"testing"

	"bowsprit/api"
)

// P29.1 to P29.3: the chapter's examples, one behind the other.
func TestChapter(t *testing.T) {
	c := cat(tab("t", "a int"))
	l := api.Layout{Parts: []api.Base{{Tables: [][]api.Row{list("1 / 3")}}, {Tables: [][]api.Row{list("2")}}}}
	made := asRule(t, "New", given{Catalog: c, Layout: l})
	if !same(made, answer{World: worldOf(c, l)}) {
		t.Fatal(made)
	}
	denies(t, made.World, api.ErrNone, come(1))
	denies(t, made.World, api.ErrEvent, api.Event{Kind: 9})

	got := asRule(t, "Do", given{World: made.World, Event: submit("SELECT a FROM t")})
	if got.Reply != (api.Reply{N: 1}) {
		t.Fatal(got)
	}
	hasNoReport(t, got.World, 1)
	w := rounds(t, got.World, 20)
	reports(t, w, 1, came("1 / 2 / 3", "a"))

	got = asRule(t, "Do", given{World: w, Event: submit("SELECT b FROM t")})
	if got.Reply != (api.Reply{N: 2}) {
		t.Fatal(got)
	}
	reports(t, got.World, 2, failed(api.ErrName, 4))
	denies(t, got.World, api.ErrReported, cancel(2), cancel(1))
	denies(t, got.World, api.ErrArg, tick(3))
	reports(t, got.World, 1, came("1 / 2 / 3", "a"))

	ran := asRule(t, "Run", given{Catalog: c, Layout: l, Events: []api.Event{submit("SELECT a FROM t"), submit("SELECT b FROM t"), cancel(2), tick(3), come(1), {Kind: 9}}})
	if !same(ran.Replies, []api.Reply{{N: 1}, {N: 2}, {Err: api.ErrReported}, {Err: api.ErrArg}, {Err: api.ErrNone}, {Err: api.ErrEvent}}) {
		t.Error(ran.Replies)
	}
}
