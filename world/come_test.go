package world_test

import (
	"math"
	"testing"

	"bowsprit/api"
	"bowsprit/coord"
	"bowsprit/worker"
)

// begun is a world in which a query runs that no node but the coordinator's knows of.
func begun() api.World {
	return reached(plain(), submit(ofU))
}

// knowing is what becomes of a world when its node hears of a query's plan.
func knowing(w api.World, node, epoch int, text string) api.World {
	return of(w, func(w *api.World) {
		x, _, e := worker.Hear(w.Workers[node-1], planFor(epoch, node, text))
		if e != api.OK {
			panic(e)
		}
		w.Workers[node-1] = x
	})
}

// P29.2: EvCome: a message comes to a node, and what that says to it is sent from there; no other node hears of it.
func TestComeToNodes(t *testing.T) {
	for node := 1; node <= sites; node++ {
		w := with(begun(), parcel(3, 0, node, planFor(1, node, ofU)), parcel(5, 0, node, planFor(1, node, ofU)), parcel(8, 0, node, message(api.MsgDrop, 1, 0, node)), parcel(9, 0, node, planFor(1, node, ofU)))
		want := sending(without(knowing(w, node, 1, ofU), 3), message(api.MsgHave, 1, node, 0))
		w = does(t, w, come(3), want, 0)
		w = does(t, w, come(5), sending(without(want, 5), message(api.MsgHave, 1, node, 0)), 0)
		want = of(without(w, 8), func(w *api.World) {
			x := &w.Workers[node-1]
			x.Has, x.Gone, x.Tasks = 0, 2, nil
		})
		w = does(t, w, come(8), sending(want, message(api.MsgGone, 1, node, 0)), 0)
		w = does(t, w, come(9), sending(without(w, 9), message(api.MsgGone, 1, node, 0)), 0)
		denies(t, w, api.ErrNone, come(3), come(5), come(8), come(9), come(10+4))
		w = goes(t, w, come(10), come(11), come(12))
		if n := w.Net; len(n.Parcels) != 1 || n.Sent != 13 || w.Coord.Entries[0].Has != setOf(node) || w.Coord.Entries[0].Gone != 0 {
			t.Error(n, w.Coord)
		}
	}
}

// P29.2: EvCome: messages to the coordinator: it hears each Kind, and says nothing.
func TestComeToCoordinator(t *testing.T) {
	w := goes(t, begun(), submit(ofBoth), cancel(2), submit(faults))
	for _, m := range []api.Msg{message(api.MsgHave, 1, 2, 0), message(api.MsgGone, 2, 3, 0), failure(3, 1, api.ErrFault), failure(1, 2, api.ErrOver), data(1, 0, 2, 0, 1, "9"), data(1, 0, 3, 0, 1, "")} {
		c, e := coord.Hear(w.Coord, m)
		must(t, e)
		before := with(w, parcel(1, m.From, 0, m))
		after := does(t, before, come(1), without(of(before, func(w *api.World) { w.Coord = c }), 1), 0)
		if same(after.Coord, w.Coord) {
			t.Error(m)
		}
	}
	before := with(w, parcel(4, 2, 0, failure(3, 2, api.ErrOver)))
	reports(t, goes(t, before, come(4)), 3, failed(api.ErrOver, 0))
	for _, m := range []api.Msg{planFor(1, 0, ofU), message(api.MsgDrop, 1, 0, 0), message(api.MsgHave, 4, 1, 0), message(api.MsgGone, 1, 1, 0), message(api.MsgHave, 1, 4, 0)} {
		before := with(w, parcel(1, 2, 0, m))
		does(t, before, come(1), without(before, 1), 0)
	}
}

// P29.2: EvCome: it is the parcel that says to which node it came, and the message that says to whom it goes: if these are not the same nobody hears it; from whom it came is the message's to say.
func TestComeToAnotherNode(t *testing.T) {
	for to := range api.MaxSites + 1 {
		for node := range sites + 1 {
			from := (to + 1) % (api.MaxSites + 1)
			for _, m := range []api.Msg{planFor(1, node, ofU), message(api.MsgHave, 1, 2, node), message(api.MsgDrop, 1, 0, node)} {
				w := with(begun(), parcel(6, from, to, m))
				want := without(w, 6)
				switch {
				case to != node || to == 0 && m.Kind != api.MsgHave || to > 0 && m.Kind == api.MsgHave:
				case m.Kind == api.MsgPlan:
					want = sending(knowing(want, to, 1, ofU), message(api.MsgHave, 1, to, 0))
				case m.Kind == api.MsgHave:
					want.Coord.Entries[0].Has = setOf(2)
				case m.Kind == api.MsgDrop:
					want.Workers[to-1].Gone = 2
					want = sending(want, message(api.MsgGone, 1, to, 0))
				}
				does(t, w, come(6), want, 0)
			}
		}
	}
	for node := sites + 1; node <= api.MaxSites; node++ { // nobody is there
		w := with(begun(), parcel(6, 0, node, planFor(1, node, ofU)), parcel(9, 0, node, message(api.MsgDrop, 1, 0, node)))
		w = does(t, w, come(9), without(w, 9), 0)
		does(t, w, come(6), without(w, 6), 0)
	}
}

// P29.2: EvCome: bytes that are no message's: the parcel is gone, nobody hears anything.
func TestComeOfNoMessage(t *testing.T) {
	m := parcel(6, 0, 2, planFor(1, 2, ofU))
	for k := range m.Bytes {
		p := copyOf(m)
		p.Bytes[k] ^= byte(1 + k%255)
		p.Spoiled = k%2 == 0
		w := with(begun(), p)
		does(t, w, come(6), without(w, 6), 0)
		p.Bytes, p.Spoiled = copyOf(m).Bytes[:k], false
		w = with(begun(), p)
		does(t, w, come(6), without(w, 6), 0)
	}
	long := copyOf(m)
	long.Bytes = append(long.Bytes, 0)
	for _, p := range append(many(4, 60), long, api.Parcel{Num: 1, From: 2}, api.Parcel{Num: 1, To: 2}) {
		w := with(begun(), p)
		does(t, w, come(p.Num), without(w, p.Num), 0)
	}
}

// P29.2: EvCome: ErrNone of a Num of no parcel: of none, of one that came or was lost, of one that was never sent.
func TestComeOfNone(t *testing.T) {
	for _, w := range worlds() {
		nums := []uint64{0, w.Net.Sent + 1, w.Net.Sent + 2, api.MaxSent, api.MaxSent + 1, 1 << 63, math.MaxUint64, 1 << 32}
		for num := range w.Net.Sent {
			nums = append(nums, num+1)
		}
		there := map[uint64]bool{}
		for _, p := range w.Net.Parcels {
			there[p.Num] = true
		}
		for _, num := range nums {
			if !there[num] {
				denies(t, w, api.ErrNone, come(num))
			} else if num%3 == 0 {
				denies(t, goes(t, w, come(num)), api.ErrNone, come(num), lose(num), twin(num), spoilt(num, 0, 1))
				denies(t, goes(t, w, lose(num)), api.ErrNone, come(num), lose(num))
			}
		}
	}
}

// P29.2: EvCome of all that is on its way, whichever comes first.
func TestComeOfAll(t *testing.T) {
	for _, step := range []int{1, 5, 7} {
		w := midst()
		for k := 0; len(w.Net.Parcels) > 0; k += step {
			w = goes(t, w, come(w.Net.Parcels[k%len(w.Net.Parcels)].Num))
		}
		reports(t, rounds(t, w, 30), 2, came("'' 1 / 'x' 1 / 'z' 1", "b", "n"))
	}
}
