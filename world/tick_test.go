package world_test

import (
	"testing"

	"bowsprit/api"
	"bowsprit/coord"
	"bowsprit/frame"
	"bowsprit/worker"
)

// P29.2: EvTick: of a node that there is what it says is sent, in order; ErrArg of any other one.
func TestTick(t *testing.T) {
	for _, w := range worlds() {
		for _, node := range append(numbers(-2, api.MaxSites+2), far()...) {
			switch {
			case node < 0 || node > sites:
				denies(t, w, api.ErrArg, tick(node))
			case node == 0:
				c, said, e := coord.Tick(w.Coord)
				must(t, e)
				does(t, w, tick(node), sending(of(w, func(w *api.World) { w.Coord = c }), said...), 0)
			default:
				x, said, e := worker.Tick(w.Workers[node-1])
				must(t, e)
				does(t, w, tick(node), sending(of(w, func(w *api.World) { w.Workers[node-1] = x }), said...), 0)
			}
		}
	}
	for nodes := 1; nodes <= api.MaxSites; nodes++ {
		w := worldOf(tables(), placed("", strewn(nodes)...))
		does(t, w, tick(nodes), w, 0)
		denies(t, w, api.ErrArg, tick(nodes+1), tick(-1))
	}
}

// P29.2: what is sent by a tick, said by hand: a query's plan to each node, and what the coordinator wants of its streams; a node has something to say when it was told.
func TestWhatIsSent(t *testing.T) {
	w := goes(t, plain(), submit(ofU))
	said := []api.Msg{wants(1, 0, 0, 1, 1), wants(1, 0, 0, 2, 1), wants(1, 0, 0, 3, 1), planFor(1, 1, ofU), planFor(1, 2, ofU), planFor(1, 3, ofU)}
	w = does(t, w, tick(0), sending(w, said...), 0)
	for node := 1; node <= sites; node++ {
		w = does(t, w, tick(node), w, 0) // it knows nothing yet
	}
	ticked := func(w api.World, node int) api.World {
		return of(w, func(w *api.World) {
			x, _, e := worker.Tick(w.Workers[node-1])
			must(t, e)
			w.Workers[node-1] = x
		})
	}
	w = goes(t, w, come(4), come(1), come(2), come(5)) // at the node 2 the acknowledgement came ahead of the plan: there was no stream yet
	w = does(t, w, tick(1), sending(ticked(w, 1), data(1, 0, 1, 0, 1, "3 / 5"), data(1, 0, 1, 0, 2, "")), 0)
	w = does(t, w, tick(2), ticked(w, 2), 0)
	w = does(t, w, tick(1), ticked(w, 1), 0)
	w = does(t, w, tick(1), ticked(w, 1), 0)
	does(t, w, tick(1), sending(ticked(w, 1), data(1, 0, 1, 0, 1, "3 / 5"), data(1, 0, 1, 0, 2, "")), 0) // again
}

// P29.2: what has no bytes is lost: a plan that no message may have; what is said besides is sent.
func TestNoBytes(t *testing.T) {
	odd := api.Plan{Frags: []api.Frag{{Nodes: []api.LNode{{Op: 99}}, At: 7, Way: -1}}}
	w := goes(t, plain(), submit(ofU), submit(unwise), submit(ofU))
	w = of(w, func(w *api.World) { w.Coord.Entries[0].Life.Program.Plan = odd })
	isWorld(t, true, w)
	_, said, e := coord.Tick(w.Coord)
	must(t, e)
	var sent []api.Msg
	for _, m := range said {
		if m.Kind != api.MsgPlan || m.Epoch != 1 {
			sent = append(sent, m)
		} else if _, e := frame.Encode(m); e != api.ErrMsg {
			t.Fatal(m, e)
		}
	}
	if len(said) != 12 || len(sent) != 9 {
		t.Fatal(said)
	}
	does(t, w, tick(0), sending(w, sent...), 0)
}

// P29.2: a net that takes no more: as many parcels as there may be, or as many Nums; what is said behind that is lost, and the node is none the wiser.
func TestFullNet(t *testing.T) {
	w := goes(t, plain(), submit(ofU))
	said := []api.Msg{wants(1, 0, 0, 1, 1), wants(1, 0, 0, 2, 1), wants(1, 0, 0, 3, 1), planFor(1, 1, ofU), planFor(1, 2, ofU), planFor(1, 3, ofU)}
	for room := range 8 {
		crowded := of(w, func(w *api.World) { w.Net = netOf(many(api.MaxWay-room, 1)...) })
		late := of(w, func(w *api.World) { w.Net.Sent = uint64(api.MaxSent - room) })
		does(t, late, tick(0), sending(late, said[:min(room, 6)]...), 0)
		if room < 2 || room > 5 {
			got := asRule(t, "Do", given{World: crowded, Event: tick(0)})
			if want := sending(crowded, said[:min(room, 6)]...); !same(got, answer{World: want}) {
				t.Error(room, got.World.Net.Sent, want.Net.Sent)
			}
		}
	}
	crowded := with(w, append(many(api.MaxWay-1, 1), parcel(api.MaxWay, 0, 2, planFor(1, 2, ofU)))...)
	got := asRule(t, "Do", given{World: crowded, Event: come(api.MaxWay)}) // there is room for what is said to that
	if n := got.World.Net; n.Sent != api.MaxWay+1 || len(n.Parcels) != api.MaxWay || worker.Knows(got.World.Workers[1], 1) != 1 {
		t.Error(n.Sent, len(n.Parcels))
	}
	last := of(with(w, parcel(7, 0, 2, planFor(1, 2, ofU))), func(w *api.World) { w.Net.Sent = api.MaxSent })
	got = asRule(t, "Do", given{World: last, Event: come(7)})
	if n := got.World.Net; n.Sent != api.MaxSent || len(n.Parcels) != 0 || worker.Knows(got.World.Workers[1], 1) != 1 {
		t.Error(n)
	}
}
