package net_test

import (
	"math"
	"testing"

	"bowsprit/api"
)

// areSame holds whether two nets are the same, the one way and the other.
func areSame(t *testing.T, want bool, a, b api.Net) {
	t.Helper()
	for _, g := range []given{{Net: a, Other: b}, {Net: b, Other: a}} {
		if got := asRule(t, "Same", g); got.Is != want {
			t.Errorf("Same(%v, %v): %v", short(g.Net), short(g.Other), got.Is)
		}
	}
}

// differences are deeds behind each of which a net of three parcels at least is another one, by one thing.
func differences() []func(n *api.Net) {
	last := func(n *api.Net) int { return len(n.Parcels) - 1 }
	l := []func(n *api.Net){
		func(n *api.Net) { n.Sent++ },
		func(n *api.Net) { n.Sent-- },
		func(n *api.Net) { n.Sent ^= 1 << 63 },
		func(n *api.Net) { n.Sent ^= 1 << 32 },
		func(n *api.Net) { n.Parcels = nil },
		func(n *api.Net) { n.Parcels = n.Parcels[1:] },
		func(n *api.Net) { n.Parcels = n.Parcels[:last(n)] },
		func(n *api.Net) { n.Parcels = append(n.Parcels, n.Parcels[0]) },
		func(n *api.Net) { n.Parcels = append(n.Parcels, api.Parcel{}) },
		func(n *api.Net) { n.Parcels[0], n.Parcels[1] = n.Parcels[1], n.Parcels[0] },
		func(n *api.Net) { n.Parcels[last(n)], n.Parcels[0] = n.Parcels[0], n.Parcels[last(n)] },
	}
	for _, deed := range []func(p *api.Parcel){
		func(p *api.Parcel) { p.Num++ }, func(p *api.Parcel) { p.Num-- }, func(p *api.Parcel) { p.Num ^= 1 << 63 }, func(p *api.Parcel) { p.Num ^= 1 << 32 },
		func(p *api.Parcel) { p.From++ }, func(p *api.Parcel) { p.From-- }, func(p *api.Parcel) { p.From ^= math.MinInt },
		func(p *api.Parcel) { p.To++ }, func(p *api.Parcel) { p.To-- }, func(p *api.Parcel) { p.To ^= math.MinInt },
		func(p *api.Parcel) { p.From, p.To = p.To, p.From },
		func(p *api.Parcel) { p.Spoiled = !p.Spoiled },
		func(p *api.Parcel) { p.Bytes = nil }, func(p *api.Parcel) { p.Bytes = p.Bytes[1:] }, func(p *api.Parcel) { p.Bytes = p.Bytes[:len(p.Bytes)-1] },
		func(p *api.Parcel) { p.Bytes = append(p.Bytes, 0) }, func(p *api.Parcel) { p.Bytes[0]++ }, func(p *api.Parcel) { p.Bytes[len(p.Bytes)-1] ^= 128 }, func(p *api.Parcel) { p.Bytes[len(p.Bytes)/2] ^= 1 },
		func(p *api.Parcel) { p.Bytes[0], p.Bytes[1] = p.Bytes[1], p.Bytes[0] },
	} {
		l = append(l, func(n *api.Net) { deed(&n.Parcels[0]) }, func(n *api.Net) { deed(&n.Parcels[1]) }, func(n *api.Net) { deed(&n.Parcels[last(n)]) })
	}
	return l
}

// fullNets are nets of which each parcel has several bytes: such that may be, and one that may not.
func fullNets() []api.Net {
	n := laid(9, parcel(2, 1, 4, 7, 8), turned(3, 4, 1, 6, 5, 4), parcel(4, 1, 5, 7, 9), turned(8, 5, 1, 1, 2, 3))
	return []api.Net{n, changing(n, func(n *api.Net) { n.Sent = 3 }), laid(3, parcel(1, 2, 3, 4, 5), parcel(2, 3, 2, 5, 4), parcel(3, 2, 3, 4, 6))}
}

// P24.1: nets that differ in one field alone, of one parcel alone, in their order, in one byte.
func TestSame(t *testing.T) {
	for _, n := range fullNets() {
		areSame(t, true, n, copyOf(n))
		for k, deed := range differences() {
			other := changing(n, deed)
			areSame(t, false, n, other)
			areSame(t, true, other, copyOf(other))
			for m, second := range differences() {
				if k != m {
					asRule(t, "Same", given{Net: other, Other: changing(n, second)})
				}
			}
		}
	}
}

// P24.1: each net against each other one, such among them that may not be.
func TestSameOfAll(t *testing.T) {
	all := append(nets(), noNets()...)
	for _, a := range all {
		areSame(t, true, a, a)
		areSame(t, true, a, copyOf(a))
		for _, b := range all[:60] {
			asRule(t, "Same", given{Net: a, Other: b})
		}
	}
}

// P24.1: what stands behind a list's end does not count, and an empty list is none.
func TestSameBehindTheEnd(t *testing.T) {
	for _, n := range fullNets() {
		more := changing(n, func(n *api.Net) { n.Parcels = append(n.Parcels, parcel(9, 1, 2, 3)) })
		more.Parcels = more.Parcels[:len(n.Parcels)]
		areSame(t, true, n, more)
		areSame(t, false, n, changing(more, func(n *api.Net) { n.Parcels = n.Parcels[:2] }))
		longer := changing(n, func(n *api.Net) {
			for k, p := range n.Parcels {
				n.Parcels[k].Bytes = append(p.Bytes, 9)[:len(p.Bytes)]
			}
		})
		areSame(t, true, n, longer)
	}
	areSame(t, true, laid(4), api.Net{Sent: 4, Parcels: []api.Parcel{}})
	areSame(t, true, laid(4), api.Net{Sent: 4, Parcels: []api.Parcel{parcel(1, 2, 3)}[:0]})
	empty := api.Parcel{Num: 1, From: 1, To: 2, Bytes: []byte{}}
	areSame(t, true, laid(4, empty), laid(4, parcel(1, 1, 2)))
	areSame(t, false, laid(4), laid(4, api.Parcel{}))
}
