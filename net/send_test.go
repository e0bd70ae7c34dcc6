package net_test

import (
	"math"
	"testing"

	"bowsprit/api"
	"bowsprit/net"
)

// sends holds that something is sent: Sent is one more, and the parcel stands behind the others.
func sends(t *testing.T, n api.Net, from, to int, b []byte) api.Net {
	t.Helper()
	want := changing(n, func(n *api.Net) {
		n.Sent++
		n.Parcels = append(n.Parcels, api.Parcel{Num: n.Sent, From: from, To: to, Bytes: b})
	})
	got := asRule(t, "Send", given{Net: n, From: from, To: to, Bytes: b})
	if !same(got, answer{Net: want, Num: n.Sent + 1}) {
		t.Errorf("Send(%v, %v, %v, %v bytes): %v, %v, %v", short(n), from, to, len(b), short(got.Net), got.Num, got.Err)
	}
	return got.Net
}

// refusesSend holds an error, with nothing beside it.
func refusesSend(t *testing.T, want api.Errno, n api.Net, from, to int, b []byte) {
	t.Helper()
	if got := asRule(t, "Send", given{Net: n, From: from, To: to, Bytes: b}); !same(got, answer{Err: want}) {
		t.Errorf("Send(%v, %v, %v, %v bytes): %v, %v, %v, not %v", short(n), from, to, len(b), short(got.Net), got.Num, got.Err, want)
	}
}

// edges are nodes at the edges of those that there may be, and beyond them.
func edges() []int {
	return []int{math.MinInt, math.MinInt32, -9, -8, -2, -1, 0, 1, 4, farthest - 1, farthest, farthest + 1, farthest + 2, 16, 17, 18, 256, 1 << 32, math.MaxInt32, math.MaxInt}
}

// P24.2: each from and to at the edges, and the same.
func TestSendNodes(t *testing.T) {
	for _, n := range nets() {
		for _, from := range edges() {
			for _, to := range edges() {
				switch may := from >= 0 && from <= 8 && to >= 0 && to <= 8 && from != to; {
				case !may:
					refusesSend(t, api.ErrArg, n, from, to, []byte{9})
				case n.Sent == api.MaxSent:
					refusesSend(t, api.ErrFull, n, from, to, []byte{9})
				default:
					sends(t, n, from, to, []byte{9})
				}
			}
		}
	}
}

// P24.2: no bytes, one, MaxParcel and one more.
func TestSendBytes(t *testing.T) {
	for _, n := range []api.Net{{}, laid(7), sundry(), many(30)} {
		sends(t, n, 1, 2, nil)
		sends(t, n, 1, 2, []byte{})
		for _, count := range []int{1, 2, 255, 256, 1 << 15, api.MaxParcel - 1, api.MaxParcel} {
			sends(t, n, farthest, 0, long(count))
		}
		for _, count := range []int{api.MaxParcel + 1, api.MaxParcel + 2, 1 << 16, 2 * api.MaxParcel} {
			refusesSend(t, api.ErrLong, n, farthest, 0, long(count))
		}
	}
}

// P24.2: a slice of bytes with room behind its end has just the bytes ahead of that.
func TestSendAheadOfTheEnd(t *testing.T) {
	b := long(api.MaxParcel + 5)
	sends(t, sundry(), 1, 2, b[:api.MaxParcel])
	sends(t, sundry(), 1, 2, b[3:9])
	sends(t, sundry(), 1, 2, b[:0])
}

// P24.2: MaxWay parcels just, and one less.
func TestSendMaxWay(t *testing.T) {
	n := sends(t, many(api.MaxWay-1), 1, 2, []byte{7})
	if len(n.Parcels) != api.MaxWay || net.Check(n) != api.OK {
		t.Error(len(n.Parcels), net.Check(n))
	}
	for range 2 {
		refusesSend(t, api.ErrFull, n, 1, 2, []byte{7})
		refusesSend(t, api.ErrFull, n, 1, 2, nil)
	}
	refusesSend(t, api.ErrFull, many(api.MaxWay), 0, farthest, []byte{7})
	after, e := net.Lose(n, n.Parcels[5].Num)
	if e != api.OK {
		t.Fatal(e)
	}
	sends(t, after, 1, 2, []byte{7})
}

// P24.2: Sent of MaxSent just, and one less.
func TestSendMaxSent(t *testing.T) {
	for _, n := range []api.Net{laid(api.MaxSent - 1), highest(api.MaxSent - 1), laid(api.MaxSent-1, parcel(3, 1, 2))} {
		n = sends(t, n, 2, 1, []byte{7})
		if n.Sent != api.MaxSent {
			t.Error(n)
		}
		refusesSend(t, api.ErrFull, n, 2, 1, []byte{7})
	}
	refusesSend(t, api.ErrFull, laid(api.MaxSent), 2, 1, []byte{7})
	sends(t, sends(t, laid(api.MaxSent-2), 2, 1, nil), 2, 1, nil)
}

// P24.2: of several that are wrong ErrNet goes ahead of ErrArg, that ahead of ErrLong, that ahead of ErrFull.
func TestSendSeveralWrong(t *testing.T) {
	tooLong := long(api.MaxParcel + 1)
	for _, n := range []api.Net{many(api.MaxWay), laid(api.MaxSent), highest(api.MaxSent), changing(many(api.MaxWay), func(n *api.Net) { n.Sent = api.MaxSent })} {
		for _, way := range [][2]int{{-1, 2}, {2, -1}, {1, 1}, {0, 0}, {farthest + 1, 1}, {1, farthest + 1}, {-1, -1}, {9, 9}} {
			refusesSend(t, api.ErrArg, n, way[0], way[1], []byte{1})
			refusesSend(t, api.ErrArg, n, way[0], way[1], tooLong)
			refusesSend(t, api.ErrArg, sundry(), way[0], way[1], tooLong)
			refusesSend(t, api.ErrNet, noNets()[0], way[0], way[1], tooLong)
		}
		refusesSend(t, api.ErrLong, n, 1, 2, tooLong)
		refusesSend(t, api.ErrFull, n, 1, 2, tooLong[1:])
	}
}

// P24.2: the Num is one more than Sent, whatever Nums there are; and the parcel stands behind the others, not Spoiled.
func TestSendNum(t *testing.T) {
	n := laid(6, turned(2, 1, 4, 7))
	n = sends(t, n, 1, 4, []byte{7})
	n = sends(t, n, 4, 1, []byte{8})
	n = sends(t, n, 1, 4, nil)
	if want := laid(9, turned(2, 1, 4, 7), parcel(7, 1, 4, 7), parcel(8, 4, 1, 8), parcel(9, 1, 4)); !same(n, want) {
		t.Error(n)
	}
	n, gone, e := net.Drop(n, 1, 4)
	if gone != 3 || e != api.OK {
		t.Error(n, gone, e)
	}
	sends(t, n, 1, 4, []byte{1})
}
