package world_test

import (
	"math"
	"slices"
	"testing"

	"bowsprit/api"
	"bowsprit/coord"
)

// aside are Nums that no parcel of a world has.
func aside(w api.World) []uint64 {
	l := []uint64{0, w.Net.Sent + 1, w.Net.Sent + 7, api.MaxSent, api.MaxSent + 1, 1 << 63, math.MaxUint64}
	for num := uint64(1); num <= min(w.Net.Sent, 200); num++ {
		if !slices.ContainsFunc(w.Net.Parcels, func(p api.Parcel) bool { return p.Num == num }) {
			l = append(l, num)
		}
	}
	return l
}

// P29.2: EvLose: the parcel is gone, and nobody hears it; ErrNone of one that is not there.
func TestLose(t *testing.T) {
	for _, w := range worlds() {
		for _, p := range w.Net.Parcels {
			after := does(t, w, lose(p.Num), without(w, p.Num), 0)
			denies(t, after, api.ErrNone, lose(p.Num), come(p.Num))
		}
		for _, num := range aside(w) {
			denies(t, w, api.ErrNone, lose(num))
		}
	}
}

// P29.2: EvDrop: all parcels from a node to another one, and how many these were; between nodes that are not there, too; ErrArg, as of the net.
func TestDrop(t *testing.T) {
	crowd := with(begun(), api.Parcel{Num: 2, From: 1, To: 0}, api.Parcel{Num: 3, From: 0, To: 1}, api.Parcel{Num: 5, From: 1, To: 0}, api.Parcel{Num: 8, From: 8, To: 7}, api.Parcel{Num: 9, From: 7, To: 8}, api.Parcel{Num: 10, From: 8, To: 7}, api.Parcel{Num: 12, From: 1, To: 0})
	for _, w := range append(worlds(), crowd) {
		for from := -2; from <= api.MaxSites+2; from++ {
			for to := -2; to <= api.MaxSites+2; to++ {
				if from == to || min(from, to) < 0 || max(from, to) > api.MaxSites {
					denies(t, w, api.ErrArg, drop(from, to))
					continue
				}
				count := 0
				want := of(w, func(w *api.World) {
					w.Net.Parcels = slices.DeleteFunc(w.Net.Parcels, func(p api.Parcel) bool {
						is := p.From == from && p.To == to
						if is {
							count++
						}
						return is
					})
				})
				does(t, w, drop(from, to), want, count)
			}
		}
		for _, n := range far() {
			denies(t, w, api.ErrArg, drop(n, 0), drop(1, n))
		}
	}
	if got := asRule(t, "Do", given{World: crowd, Event: drop(1, 0)}); got.Reply.N != 3 {
		t.Error(got)
	}
	if got := asRule(t, "Do", given{World: crowd, Event: drop(8, 7)}); got.Reply.N != 2 {
		t.Error(got)
	}
	if got := asRule(t, "Do", given{World: crowd, Event: drop(2, 1)}); got.Reply.N != 0 || !same(got.World, crowd) {
		t.Error(got)
	}
}

// P29.2: EvTwin: a parcel is there once more, behind all others; N is its Num. Each comes by itself.
func TestTwin(t *testing.T) {
	for _, w := range worlds() {
		for _, p := range w.Net.Parcels {
			num := w.Net.Sent + 1
			want := of(w, func(w *api.World) {
				p.Num = num
				w.Net.Sent, w.Net.Parcels = num, append(w.Net.Parcels, p)
			})
			does(t, w, twin(w.Net.Parcels[slices.IndexFunc(w.Net.Parcels, func(q api.Parcel) bool { return same(p.Bytes, q.Bytes) })].Num), want, int(num))
		}
		for _, num := range aside(w) {
			denies(t, w, api.ErrNone, twin(num))
		}
	}
	w := with(begun(), parcel(4, 0, 2, planFor(1, 2, ofU)))
	w = goes(t, w, twin(4), twin(5), twin(4), come(4))
	denies(t, w, api.ErrNone, come(4), twin(4))
	if w = goes(t, w, come(6), come(7), come(5)); w.Net.Sent != 11 || len(w.Net.Parcels) != 4 {
		t.Error(w.Net) // each time it said that it has it
	}
}

// P29.2: EvTwin: ErrFull, as of the net: of as many parcels as there may be, of as many Nums; ErrNone goes ahead. N is a Num that is no number of 32 bits.
func TestTwinOfFull(t *testing.T) {
	for room := range 3 {
		crowded := of(plain(), func(w *api.World) { w.Net = netOf(many(api.MaxWay-room, 0)...) })
		late := with(plain(), api.Parcel{Num: uint64(api.MaxSent - room), From: 1})
		if room == 0 {
			denies(t, crowded, api.ErrFull, twin(1), twin(api.MaxWay))
			denies(t, crowded, api.ErrNone, twin(0), twin(api.MaxWay+1))
			denies(t, late, api.ErrFull, twin(api.MaxSent))
			denies(t, late, api.ErrNone, twin(1))
			continue
		}
		got := asRule(t, "Do", given{World: crowded, Event: twin(9)})
		if got.Reply != (api.Reply{N: api.MaxWay - room + 1}) || len(got.World.Net.Parcels) != api.MaxWay-room+1 {
			t.Error(got.Reply)
		}
		got = asRule(t, "Do", given{World: late, Event: twin(late.Net.Sent)})
		if got.Reply != (api.Reply{N: api.MaxSent - room + 1}) {
			t.Error(got)
		}
	}
}

// P29.2: EvSpoil: one byte is another one, wherever it stands, by whatever; it is spoiled once; what is spoiled nobody hears.
func TestSpoil(t *testing.T) {
	w := with(begun(), parcel(3, 0, 2, planFor(1, 2, ofU)), api.Parcel{Num: 4, From: 1}, parcel(6, 0, 1, message(api.MsgDrop, 1, 0, 1)))
	for k, p := range w.Net.Parcels {
		for _, at := range append(numbers(-3, len(p.Bytes)+3), far()...) {
			for _, by := range []byte{0, 1, 128, 255} {
				if at < 0 || at >= len(p.Bytes) || by == 0 {
					denies(t, w, api.ErrArg, spoilt(p.Num, at, by))
					continue
				}
				want := of(w, func(w *api.World) {
					q := &w.Net.Parcels[k]
					q.Bytes[at], q.Spoiled = q.Bytes[at]^by, true
				})
				after := does(t, w, spoilt(p.Num, at, by), want, 0)
				denies(t, after, api.ErrThere, spoilt(p.Num, at, by), spoilt(p.Num, 0, 1), spoilt(p.Num, -1, 0), spoilt(p.Num, 99, 1), spoilt(p.Num, 0, 0))
				does(t, after, come(p.Num), without(after, p.Num), 0)
				twice := goes(t, after, twin(p.Num))
				denies(t, twice, api.ErrThere, spoilt(7, at, by))
				does(t, twice, come(7), without(twice, 7), 0)
			}
		}
	}
	for _, w := range worlds() {
		for _, num := range aside(w) {
			denies(t, w, api.ErrNone, spoilt(num, 0, 1), spoilt(num, -1, 0))
		}
	}
}

// P29.2: a parcel that is spoiled leaves its twin as it is, whichever of both it is.
func TestSpoilOfOneTwin(t *testing.T) {
	w := goes(t, with(begun(), parcel(3, 0, 2, planFor(1, 2, ofU))), twin(3))
	for num := uint64(3); num <= 4; num++ {
		after := goes(t, w, spoilt(num, 5, 1), come(num))
		if len(after.Workers[1].Tasks) > 0 {
			t.Error(after)
		}
		does(t, after, come(7-num), sending(without(knowing(after, 2, 1, ofU), 7-num), message(api.MsgHave, 1, 2, 0)), 0)
	}
}

// P29.2: whatever becomes of parcels on their way, the coordinator and the nodes know nothing of it.
func TestWayAlone(t *testing.T) {
	w := midst()
	num := w.Net.Parcels[5].Num
	after := goes(t, w, twin(num), lose(num), spoilt(w.Net.Sent+1, 0, 1), drop(1, 2), drop(0, 3))
	if !coord.Same(after.Coord, w.Coord) || !same(after.Workers, w.Workers) || len(after.Net.Parcels) >= len(w.Net.Parcels) {
		t.Error(after)
	}
}
