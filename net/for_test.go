package net_test

import (
	"math"
	"testing"

	"bowsprit/api"
	"bowsprit/net"
)

// isFor holds the Nums of the parcels to a node.
func isFor(t *testing.T, n api.Net, node int, want ...uint64) {
	t.Helper()
	if got := asRule(t, "For", given{Net: n, Node: node}); !same(got, answer{Nums: want}) {
		t.Errorf("For(%v, %v): %v, not %v", short(n), node, got.Nums, want)
	}
}

// P24.5: each node from below 0 to above MaxSites.
func TestFor(t *testing.T) {
	n := sundry()
	isFor(t, n, 0, 9, 11)
	isFor(t, n, 1, 3)
	isFor(t, n, 2)
	isFor(t, n, 3)
	isFor(t, n, 4, 2, 4, 10, 15, 18)
	isFor(t, n, 5, 16)
	isFor(t, n, 6)
	isFor(t, n, 7)
	isFor(t, n, farthest, 6)
	for _, node := range []int{math.MinInt, math.MinInt32, -4, -1, farthest + 1, farthest + 4, 260, 1 << 32, 1<<32 + 4, math.MaxInt} {
		isFor(t, n, node)
	}
	for _, n := range nets() {
		for _, node := range edges() {
			asRule(t, "For", given{Net: n, Node: node})
		}
		for node := -1; node <= farthest+1; node++ {
			asRule(t, "For", given{Net: n, Node: node})
		}
	}
}

// P24.5: of no parcels there are none; of all to one node all.
func TestForNoneAndAll(t *testing.T) {
	for node := -1; node <= farthest+1; node++ {
		isFor(t, api.Net{}, node)
		isFor(t, laid(api.MaxSent), node)
	}
	n := many(api.MaxWay)
	for k := range n.Parcels {
		n.Parcels[k].To = 4
	}
	if got := asRule(t, "For", given{Net: n, Node: 4}).Nums; len(got) != api.MaxWay || got[0] != 1 || got[api.MaxWay-1] != n.Parcels[api.MaxWay-1].Num {
		t.Error(len(got))
	}
	isFor(t, n, 3)
	isFor(t, highest(api.MaxSent), 3, 1, api.MaxSent)
}

// picks holds which Num stands at a place.
func picks(t *testing.T, n api.Net, k int, want uint64) {
	t.Helper()
	if got := asRule(t, "Pick", given{Net: n, K: k}); !same(got, answer{Num: want, Is: true}) {
		t.Errorf("Pick(%v, %v): %v, %v, not %v", short(n), k, got.Num, got.Is, want)
	}
}

// ks are places, and such that are none, of so many parcels.
func ks(count int) []int {
	return []int{math.MinInt, math.MinInt + 1, math.MinInt32, -count - 1, -count, -count + 1, -3, -2, -1, 0, 1, 2, 3, 5, 7, count - 1, count, count + 1, 2*count - 1, 2 * count, 2*count + 1, 1 << 32, math.MaxInt32, math.MaxInt - 2, math.MaxInt - 1, math.MaxInt}
}

// P24.5: k of 0, of as many as there are parcels, one less, one more, below 0, at both ends of the range.
func TestPick(t *testing.T) {
	n := sundry() // ten parcels
	for k, num := range []uint64{2, 3, 4, 6, 9, 10, 11, 15, 16, 18, 2, 3, 4, 6, 9, 10, 11, 15, 16, 18, 2} {
		picks(t, n, k, num)
		picks(t, n, k+1000, num)
	}
	for _, k := range []int{math.MinInt, math.MinInt32, -11, -10, -9, -8, -7, -6, -5, -4, -3, -2, -1} {
		picks(t, n, k, 2)
	}
	picks(t, n, math.MaxInt, 15)                               // it ends in 7
	picks(t, n, math.MaxInt-7, 2)                              // in 0
	picks(t, n, math.MaxInt-8, 18)                             // in 9
	picks(t, n, math.MaxInt32, 15)                             // in 7, too
	picks(t, highest(api.MaxSent), math.MaxInt, api.MaxSent-1) // 1 is left of a third of it
	for _, n := range append(nets(), many(api.MaxWay), many(api.MaxWay-1)) {
		for _, k := range ks(len(n.Parcels)) {
			asRule(t, "Pick", given{Net: n, K: k})
		}
	}
}

// P24.5: of no parcels 0 and false; of one that one, whatever k is.
func TestPickOfNoneAndOne(t *testing.T) {
	one := laid(9, parcel(7, 1, 2))
	for _, k := range append(ks(0), ks(1)...) {
		picks(t, one, k, 7)
		for _, n := range []api.Net{{}, laid(7), laid(api.MaxSent), {Parcels: []api.Parcel{}}, {Sent: 3, Parcels: one.Parcels[:0]}} {
			if num, is := net.Pick(n, k); num != 0 || is {
				t.Error(n, k, num, is)
			}
		}
	}
}
