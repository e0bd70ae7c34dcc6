package net_test

import (
	"testing"

	"bowsprit/api"
	"bowsprit/net"
)

// P24.2 to P24.5: the chapter's examples, one behind the other, with all that there is behind each.
func TestChapter(t *testing.T) {
	n := api.Net{}
	becomes := func(name string, g given, want answer) {
		t.Helper()
		g.Net = n
		got := asRule(t, name, g)
		is(t, name, got, want)
		if want.Err == api.OK {
			n = got.Net
		}
	}
	refuses := func(name string, g given, e api.Errno) {
		t.Helper()
		becomes(name, g, answer{Err: e})
	}
	first, second := parcel(1, 1, 4, 7), parcel(2, 4, 0, 8)
	becomes("Send", given{From: 1, To: 4, Bytes: []byte{7}}, answer{Net: laid(1, first), Num: 1})
	becomes("Send", given{From: 4, To: 0, Bytes: []byte{8}}, answer{Net: laid(2, first, second), Num: 2})
	refuses("Send", given{From: 1, To: 1, Bytes: []byte{9}}, api.ErrArg)
	becomes("Twin", given{Num: 1}, answer{Net: laid(3, first, second, parcel(3, 1, 4, 7)), Num: 3})
	becomes("Come", given{Num: 1}, answer{Net: laid(3, second, parcel(3, 1, 4, 7)), Parcel: first})
	refuses("Come", given{Num: 1}, api.ErrNone)
	becomes("Spoil", given{Num: 3, At: 0, By: 1}, answer{Net: laid(3, second, turned(3, 1, 4, 6))})
	refuses("Spoil", given{Num: 3, At: 0, By: 1}, api.ErrThere)
	becomes("Come", given{Num: 3}, answer{Net: laid(3, second), Parcel: turned(3, 1, 4, 6)})
	is(t, "For", asRule(t, "For", given{Net: n, Node: 0}), answer{Nums: []uint64{2}})
	is(t, "Pick", asRule(t, "Pick", given{Net: n, K: 5}), answer{Num: 2, Is: true})
	becomes("Drop", given{From: 4, To: 0}, answer{Net: laid(3), Count: 1})
	is(t, "Pick", asRule(t, "Pick", given{Net: n, K: 0}), answer{})
	refuses("Spoil", given{Num: 9, At: 0, By: 1}, api.ErrNone)
	refuses("Lose", given{Num: 2}, api.ErrNone)
}

// P24.1: whether what the examples come to is the same.
func TestChapterSame(t *testing.T) {
	a, b := laid(3, parcel(1, 1, 4, 7), parcel(3, 1, 4, 7)), laid(3, parcel(1, 1, 4, 7), turned(3, 1, 4, 6))
	if !net.Same(a, a) || net.Same(a, b) || !net.Same(api.Net{}, laid(0)) || net.Check(a) != api.OK || net.Check(b) != api.OK {
		t.Error(a, b)
	}
}
