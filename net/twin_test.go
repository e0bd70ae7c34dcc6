package net_test

import (
	"math"
	"testing"

	"bowsprit/api"
)

// twins holds that a parcel's twin stands behind the others, and that this is all.
func twins(t *testing.T, n api.Net, place int) api.Net {
	t.Helper()
	want := changing(n, func(n *api.Net) {
		n.Sent++
		p := copyOf(n.Parcels[place])
		p.Num = n.Sent
		n.Parcels = append(n.Parcels, p)
	})
	got := asRule(t, "Twin", given{Net: n, Num: n.Parcels[place].Num})
	if !same(got, answer{Net: want, Num: want.Sent}) {
		t.Errorf("Twin(%v, %v): %v, %v, %v", short(n), n.Parcels[place].Num, short(got.Net), got.Num, got.Err)
	}
	return got.Net
}

// refuses holds an error of a call, with nothing beside it.
func refuses(t *testing.T, name string, want api.Errno, g given) {
	t.Helper()
	if got := asRule(t, name, g); !same(got, answer{Err: want}) {
		g.Net, g.Other = short(g.Net), short(g.Other)
		t.Errorf("%s of %v: %v, not %v", name, g, got.Err, want)
	}
}

// P24.4: of each parcel of each net, Spoiled or not; of a twin; of a twin of that.
func TestTwin(t *testing.T) {
	for _, n := range nets() {
		for place := range n.Parcels {
			if n.Sent == api.MaxSent {
				refuses(t, "Twin", api.ErrFull, given{Net: n, Num: n.Parcels[place].Num})
				continue
			}
			after := twins(t, n, place)
			if after.Sent == api.MaxSent {
				refuses(t, "Twin", api.ErrFull, given{Net: after, Num: n.Parcels[place].Num})
				refuses(t, "Twin", api.ErrFull, given{Net: after, Num: after.Sent})
				continue
			}
			after = twins(t, after, len(after.Parcels)-1)
			twins(t, after, place)
			twins(t, after, len(after.Parcels)-1)
		}
	}
}

// P24.4: a twin is Spoiled, if the other one was when it was made, and goes its own way from then on.
func TestTwinGoesItsOwnWay(t *testing.T) {
	n := laid(5, turned(2, 1, 4, 7, 8), parcel(3, 4, 1, 9))
	n = twins(t, twins(t, n, 0), 1)
	if want := laid(7, turned(2, 1, 4, 7, 8), parcel(3, 4, 1, 9), turned(6, 1, 4, 7, 8), parcel(7, 4, 1, 9)); !same(n, want) {
		t.Error(n)
	}
	n = spoiledAt(t, n, 1, 0, 6)
	if want := laid(7, turned(2, 1, 4, 7, 8), turned(3, 4, 1, 15), turned(6, 1, 4, 7, 8), parcel(7, 4, 1, 9)); !same(n, want) {
		t.Error(n)
	}
	refuses(t, "Spoil", api.ErrThere, given{Net: n, Num: 6, By: 1})
	refuses(t, "Spoil", api.ErrThere, given{Net: n, Num: 3, By: 1})
	n = spoiledAt(t, n, 3, 0, 1)
	comes(t, n, 3)
	comes(t, n, 0)
}

// P24.4: MaxWay parcels just, and one less; Sent of MaxSent just, and one less; of a Num that there is not ErrNone goes ahead of ErrFull.
func TestTwinFull(t *testing.T) {
	n := many(api.MaxWay - 1)
	none(t, n, 0)
	n = twins(t, n, 77)
	all := []api.Net{n, many(api.MaxWay), highest(api.MaxSent), laid(api.MaxSent, turned(1, 1, 2, 3)), changing(many(api.MaxWay), func(n *api.Net) { n.Sent = api.MaxSent })}
	for _, n := range all {
		for _, place := range []int{0, len(n.Parcels) / 2, len(n.Parcels) - 1} {
			refuses(t, "Twin", api.ErrFull, given{Net: n, Num: n.Parcels[place].Num})
		}
		for _, num := range []uint64{0, 2, n.Sent + 1, math.MaxUint64} {
			refuses(t, "Twin", api.ErrNone, given{Net: n, Num: num})
		}
	}
	refuses(t, "Twin", api.ErrNone, given{Net: laid(api.MaxSent), Num: api.MaxSent})
	for place := range 3 {
		twins(t, highest(api.MaxSent-1), place)
	}
	twins(t, changing(many(5), func(n *api.Net) { n.Sent = api.MaxSent - 1 }), 2)
}

// spoiledAt holds that one byte of the parcel at a place is turned, that it is Spoiled, and that this is all.
func spoiledAt(t *testing.T, n api.Net, place, at int, by byte) api.Net {
	t.Helper()
	p := n.Parcels[place]
	want := changing(n, func(n *api.Net) {
		n.Parcels[place].Spoiled = true
		n.Parcels[place].Bytes[at] = p.Bytes[at] ^ by
	})
	got := asRule(t, "Spoil", given{Net: n, Num: p.Num, At: at, By: by})
	if !same(got, answer{Net: want}) || got.Net.Parcels[place].Bytes[at] == p.Bytes[at] {
		t.Errorf("Spoil(%v, %v, %v, %v): %v, %v", short(n), p.Num, at, by, short(got.Net), got.Err)
	}
	return got.Net
}

// wrongPlaces are none of a parcel's.
func wrongPlaces(p api.Parcel) []int {
	count := len(p.Bytes)
	return []int{math.MinInt, math.MinInt32, -256, -count - 1, -2, -1, count, count + 1, count + 2, 1 << 16, 1 << 32, math.MaxInt32, math.MaxInt - 1, math.MaxInt}
}

// P24.4: at -1, 0, the last byte's place, one more, at both ends of the range; by 0, 1, 255.
func TestSpoil(t *testing.T) {
	for _, n := range nets() {
		for place, p := range n.Parcels {
			if p.Spoiled {
				continue
			}
			for at := range p.Bytes {
				for _, by := range []byte{1, 2, 127, 128, 255} {
					spoiledAt(t, n, place, at, by)
				}
				refuses(t, "Spoil", api.ErrArg, given{Net: n, Num: p.Num, At: at, By: 0})
			}
			for _, at := range wrongPlaces(p) {
				for _, by := range []byte{0, 1, 255} {
					refuses(t, "Spoil", api.ErrArg, given{Net: n, Num: p.Num, At: at, By: by})
				}
			}
		}
	}
}

// P24.4: of what is Spoiled ErrThere, whatever stands beside it; of a parcel without bytes each place is wrong.
func TestSpoilThere(t *testing.T) {
	there := 0
	for _, n := range nets() {
		for _, p := range n.Parcels {
			for _, at := range append(wrongPlaces(p), 0) {
				for _, by := range []byte{0, 1, 255} {
					if p.Spoiled {
						there++
						refuses(t, "Spoil", api.ErrThere, given{Net: n, Num: p.Num, At: at, By: by})
					} else if len(p.Bytes) == 0 {
						refuses(t, "Spoil", api.ErrArg, given{Net: n, Num: p.Num, At: at, By: by})
					}
				}
			}
		}
	}
	for at := -2; at <= 2; at++ {
		refuses(t, "Spoil", api.ErrArg, given{Net: laid(1, api.Parcel{Num: 1, From: 1, To: 2, Bytes: []byte{}}), Num: 1, At: at, By: 1})
		refuses(t, "Spoil", api.ErrArg, given{Net: laid(1, api.Parcel{Num: 1, From: 1, To: 2, Bytes: []byte{5, 6}[:0]}), Num: 1, At: at, By: 1})
	}
	if there < 100 {
		t.Error(there)
	}
}

// P24.4: of a Num that there is not ErrNone, whatever stands beside it.
func TestSpoilNone(t *testing.T) {
	for _, n := range []api.Net{{}, laid(20), sundry(), highest(api.MaxSent)} {
		for _, at := range []int{math.MinInt, -1, 0, 1, math.MaxInt} {
			for _, by := range []byte{0, 1, 255} {
				refuses(t, "Spoil", api.ErrNone, given{Net: n, Num: 5, At: at, By: by})
				refuses(t, "Spoil", api.ErrNone, given{Net: n, Num: n.Sent + 1, At: at, By: by})
			}
		}
	}
}

// P24.4: each byte turned by each other one, once: it is never as it was, and always another one.
func TestSpoilEachByte(t *testing.T) {
	for b := range 256 {
		n := laid(1, parcel(1, 1, 2, byte(b)))
		seen := map[byte]bool{byte(b): true}
		for by := 1; by < 256; by++ {
			seen[spoiledAt(t, n, 0, 0, byte(by)).Parcels[0].Bytes[0]] = true
		}
		if len(seen) != 256 {
			t.Error(b, len(seen))
		}
	}
}

// P24.4: of MaxParcel bytes, of MaxWay parcels, and where nothing more can be sent.
func TestSpoilFull(t *testing.T) {
	n := laid(api.MaxSent, parcel(1, 1, 2), parcel(api.MaxSent, 2, 1, long(api.MaxParcel)...))
	for _, at := range []int{0, 1, 255, 256, 1 << 15, api.MaxParcel - 2, api.MaxParcel - 1} {
		spoiledAt(t, n, 1, at, 255)
	}
	refuses(t, "Spoil", api.ErrArg, given{Net: n, Num: api.MaxSent, At: api.MaxParcel, By: 255})
	for _, place := range []int{1, 2, api.MaxWay/2 + 1, api.MaxWay - 1} {
		full := many(api.MaxWay)
		spoiledAt(t, full, place, 0, 3)
		spoiledAt(t, full, place, 1, 3)
		refuses(t, "Spoil", api.ErrArg, given{Net: full, Num: full.Parcels[place].Num, At: 2, By: 3})
	}
}
