package net_test

import (
	"math"
	"slices"
	"testing"

	"bowsprit/api"
)

// without is a net of which the parcels at some places are gone.
func without(n api.Net, places ...int) api.Net {
	return changing(n, func(n *api.Net) {
		place := -1
		n.Parcels = slices.DeleteFunc(n.Parcels, func(api.Parcel) bool {
			place++
			return slices.Contains(places, place)
		})
	})
}

// comes holds that the parcel at a place comes, or is lost, and that this is all.
func comes(t *testing.T, n api.Net, place int) {
	t.Helper()
	p := n.Parcels[place]
	want := answer{Net: without(n, place), Parcel: p}
	if got := asRule(t, "Come", given{Net: n, Num: p.Num}); !same(got, want) {
		t.Errorf("Come(%v, %v): %v, %v, %v", short(n), p.Num, short(got.Net), got.Parcel, got.Err)
	}
	want.Parcel = api.Parcel{}
	if got := asRule(t, "Lose", given{Net: n, Num: p.Num}); !same(got, want) {
		t.Errorf("Lose(%v, %v): %v, %v", short(n), p.Num, short(got.Net), got.Err)
	}
}

// none holds that there is no parcel of a Num: of no call that asks for one.
func none(t *testing.T, n api.Net, num uint64) {
	t.Helper()
	for _, name := range []string{"Come", "Lose", "Twin", "Spoil"} {
		if got := asRule(t, name, given{Net: n, Num: num, At: 0, By: 1}); !same(got, answer{Err: api.ErrNone}) {
			t.Errorf("%v of %v, %v: %v, %v", name, short(n), num, short(got.Net), got.Err)
		}
	}
}

// P24.3: each parcel of each net: the first one, the last one, those between.
func TestCome(t *testing.T) {
	for _, n := range nets() {
		for place := range n.Parcels {
			comes(t, n, place)
		}
	}
}

// P24.3, P24.4: each Num of which there is none: 0, in a gap, above the last one, above Sent, at the end of 64 bits; of no parcels, too.
func TestNone(t *testing.T) {
	for _, n := range nets() {
		there := map[uint64]bool{}
		for _, p := range n.Parcels {
			there[p.Num] = true
		}
		for _, num := range []uint64{n.Sent - 1, n.Sent, n.Sent + 1, n.Sent + 2, 1 << 32, 1<<32 + 2, 1<<32 + 9, api.MaxSent - 1, api.MaxSent, api.MaxSent + 1, 1 << 63, 1<<63 + 2, math.MaxInt64, math.MaxUint64 - 1, math.MaxUint64} {
			if !there[num] {
				none(t, n, num)
			}
		}
		for num := range uint64(100) {
			if !there[num] {
				none(t, n, num)
			}
		}
	}
}

// P24.3: of many parcels, MaxWay among these, the first ones, the last ones, and such between; and those that stand between two Nums.
func TestComeOfMany(t *testing.T) {
	for _, count := range []int{1, 2, 3, 4, 5, 6, 7, 8, 9, 31, 32, 33} {
		n := many(count)
		for place := range count {
			comes(t, n, place)
			none(t, n, uint64(2*place))
			none(t, n, uint64(2*place+2))
		}
	}
	n := many(api.MaxWay)
	for _, place := range []int{0, 1, 2, 4999, 9999, 10000, 10001, 15000, api.MaxWay - 2, api.MaxWay - 1} {
		comes(t, n, place)
		none(t, n, uint64(2*place))
	}
	none(t, n, 2*api.MaxWay)
	none(t, n, 2*api.MaxWay+1)
}

// P24.3: what came, or was lost, is not there any more; all others are, in their order.
func TestComeOneBehindTheOther(t *testing.T) {
	for _, order := range [][]uint64{{2, 3, 4, 6, 9, 10, 11, 15, 16, 18}, {18, 16, 15, 11, 10, 9, 6, 4, 3, 2}, {9, 2, 18, 3, 16, 10, 4, 15, 6, 11}} {
		n := sundry()
		for k, num := range order {
			name := []string{"Come", "Lose"}[k%2]
			got := asRule(t, name, given{Net: n, Num: num})
			if got.Err != api.OK || len(got.Net.Parcels) != len(n.Parcels)-1 || got.Net.Sent != 20 {
				t.Error(name, num, got)
			}
			n = got.Net
			for _, num := range order[:k+1] {
				none(t, n, num)
			}
		}
		if !same(n, laid(20)) {
			t.Error(n)
		}
	}
}

// drops holds which parcels are gone, by their places.
func drops(t *testing.T, n api.Net, from, to int, places ...int) api.Net {
	t.Helper()
	want := answer{Net: without(n, places...), Count: len(places)}
	got := asRule(t, "Drop", given{Net: n, From: from, To: to})
	if !same(got, want) {
		t.Errorf("Drop(%v, %v, %v): %v, %v, %v, not %v", short(n), from, to, short(got.Net), got.Count, got.Err, places)
	}
	return got.Net
}

// P24.3: of no parcel, of one, of several between others, of all; the other way round; again.
func TestDrop(t *testing.T) {
	n := sundry()
	drops(t, n, 1, 4, 0, 2, 5, 9)
	drops(t, n, 4, 1, 1)
	drops(t, n, 0, farthest, 3)
	drops(t, n, farthest, 0, 6)
	drops(t, n, 4, 0, 4)
	drops(t, n, 0, 4)
	drops(t, n, 2, 4, 7)
	drops(t, n, 1, 5, 8)
	drops(t, n, 5, 1)
	drops(t, n, 6, 7)
	drops(t, laid(7), 1, 4)
	drops(t, api.Net{}, 0, farthest)
	all := laid(9, parcel(1, 1, 4, 7), turned(4, 1, 4, 7), parcel(5, 1, 4), parcel(9, 1, 4, 8))
	drops(t, all, 4, 1)
	after := drops(t, all, 1, 4, 0, 1, 2, 3)
	drops(t, after, 1, 4)
	drops(t, laid(9, all.Parcels[0]), 1, 4, 0)
	drops(t, highest(api.MaxSent), 2, 3, 0, 2)
	drops(t, drops(t, drops(t, n, 1, 4, 0, 2, 5, 9), 1, 4), 4, 1, 0)
}

// P24.3: each from and to at its edges; of what may not be ErrArg, also if there are no parcels.
func TestDropNodes(t *testing.T) {
	for _, n := range append(nets(), many(2000)) {
		for _, from := range edges() {
			for _, to := range edges() {
				got := asRule(t, "Drop", given{Net: n, From: from, To: to})
				if may := from >= 0 && from <= 8 && to >= 0 && to <= 8 && from != to; !may && !same(got, answer{Err: api.ErrArg}) || may && got.Err != api.OK {
					t.Errorf("Drop(%v, %v, %v): %v", short(n), from, to, got)
				}
			}
		}
	}
}

// P24.3: of MaxWay parcels some, all of them, and none; also where nothing more can be sent.
func TestDropOfMany(t *testing.T) {
	n := changing(many(api.MaxWay), func(n *api.Net) { n.Sent = api.MaxSent })
	left := len(n.Parcels)
	for from := range 3 {
		for to := 3; to <= 4; to++ {
			got := asRule(t, "Drop", given{Net: n, From: from, To: to})
			if got.Err != api.OK || got.Count < 3000 || got.Net.Sent != api.MaxSent {
				t.Error(from, to, got.Count, got.Err)
			}
			n = got.Net
			left -= got.Count
			if len(n.Parcels) != left {
				t.Error(from, to, left, len(n.Parcels))
			}
			drops(t, n, from, to)
		}
	}
	if left != 0 || !same(n, laid(api.MaxSent)) {
		t.Error(left)
	}
	alike := many(api.MaxWay)
	for k := range alike.Parcels {
		alike.Parcels[k].From, alike.Parcels[k].To = 7, 8
	}
	if got := asRule(t, "Drop", given{Net: alike, From: 7, To: 8}); !same(got, answer{Net: laid(2 * api.MaxWay), Count: api.MaxWay}) {
		t.Error(got.Count, got.Err)
	}
}
