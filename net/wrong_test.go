package net_test

import (
	"math"
	"testing"

	"bowsprit/api"
)

// P24.1 to P24.5: of a net that may not be ErrNet goes ahead of all else, whatever stands beside it; and nothing with it. For and Pick tell nothing.
func TestErrNetAheadOfAll(t *testing.T) {
	tooLong := long(api.MaxParcel + 1)
	for k, n := range noNets() {
		isNet(t, false, n)
		for _, way := range [][2]int{{1, 2}, {2, 1}, {1, 1}, {-1, 2}, {2, farthest + 1}} {
			refuses(t, "Send", api.ErrNet, given{Net: n, From: way[0], To: way[1], Bytes: tooLong[:k%2+api.MaxParcel]})
			refuses(t, "Drop", api.ErrNet, given{Net: n, From: way[0], To: way[1]})
		}
		nums := []uint64{0, 1, 2, 3, 5, n.Sent, n.Sent + 1, math.MaxUint64}
		for _, p := range n.Parcels[:min(len(n.Parcels), 10)] {
			nums = append(nums, p.Num)
		}
		for m, num := range nums {
			for _, name := range []string{"Come", "Lose", "Twin"} {
				refuses(t, name, api.ErrNet, given{Net: n, Num: num})
			}
			refuses(t, "Spoil", api.ErrNet, given{Net: n, Num: num, At: m%3 - 1, By: byte(m % 2)})
		}
		for node := -1; node <= farthest+1; node++ {
			isFor(t, n, node)
		}
		for _, place := range ks(len(n.Parcels)) {
			if got := asRule(t, "Pick", given{Net: n, K: place}); !same(got, answer{}) {
				t.Error(short(n), place, got)
			}
		}
	}
}

// P24.1: a net may not be as soon as one thing is wrong, whatever else is wrong beside it.
func TestSeveralWrong(t *testing.T) {
	wrong := 0
	for k, first := range spoils() {
		for m, second := range spoils() {
			n := changing(changing(sundry(), first), second)
			if asRule(t, "Check", given{Net: n}).Err == api.ErrNet {
				wrong++
			}
			if k == m {
				continue
			}
			g := []given{{Net: n, From: 1, To: 1, Num: 9}, {Net: n, From: 1, To: 4, Num: n.Parcels[1].Num}}[(k+m)%2]
			for _, name := range names() {
				asRule(t, name, g)
			}
		}
	}
	if all := len(spoils()) * len(spoils()); wrong < all*9/10 {
		t.Error(wrong, all)
	}
}

// P24.2 to P24.5: each call of each net, with whatever stands beside it, as the words say.
func TestEachCall(t *testing.T) {
	met := tally{}
	for k, n := range append(nets(), noNets()[:20]...) {
		if k >= len(nets()) {
			n = changing(n, func(n *api.Net) { n.Parcels = n.Parcels[:min(len(n.Parcels), 30)] })
		}
		for _, num := range []uint64{0, 1, 2, 3, 5, 9, 18, 20, 21} {
			for _, from := range []int{-1, 0, 1, 2, 4, farthest, farthest + 1} {
				for to := -1; to <= farthest+1; to++ {
					g := given{Net: n, Other: n, From: from, To: to, At: to - 3, Node: to, K: from * to, Num: num, By: byte(from), Bytes: long(from * from)}
					for _, name := range names() {
						met[asRule(t, name, g).Err]++
					}
				}
			}
		}
	}
	met.metAll(t, api.OK, api.ErrNet, api.ErrArg, api.ErrNone, api.ErrThere, api.ErrFull)
}
