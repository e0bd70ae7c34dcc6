package net_test

import (
	"reflect"
	"slices"
	"testing"

	"bowsprit/api"
	"bowsprit/net"
)

// eachList goes to all lists that a thing has, those within lists too.
func eachList(v reflect.Value, visit func(reflect.Value)) {
	switch v.Kind() {
	case reflect.Struct:
		for k := range v.NumField() {
			eachList(v.Field(k), visit)
		}
	case reflect.Slice:
		for k := range v.Len() {
			eachList(v.Index(k), visit)
		}
		visit(v)
	}
}

// fill changes a thing, whatever is in it; of a list it makes another one.
func fill(v reflect.Value) {
	switch v.Kind() {
	case reflect.Slice:
		other := reflect.MakeSlice(v.Type(), v.Len()+1, v.Len()+1)
		fill(other.Index(v.Len()))
		v.Set(other)
	case reflect.Struct:
		for k := range v.NumField() {
			fill(v.Field(k))
		}
	case reflect.Int:
		v.SetInt(v.Int() ^ 0x55)
	case reflect.Uint8, reflect.Uint64:
		v.SetUint(v.Uint() ^ 0x55)
	case reflect.Bool:
		v.SetBool(!v.Bool())
	}
}

// roomy is a thing with memory of its own: each list has room behind its end, and in that something.
func roomy[T any](x T) T {
	x = copyOf(x)
	eachList(reflect.ValueOf(&x).Elem(), func(v reflect.Value) {
		room := reflect.MakeSlice(v.Type(), v.Len()+3, v.Len()+3)
		reflect.Copy(room, v)
		for k := v.Len(); k < room.Len(); k++ {
			fill(room.Index(k))
		}
		v.Set(room.Slice(0, v.Len()))
	})
	return x
}

// whole is a thing whose lists have what stands in the room behind their ends, too.
func whole[T any](x T) T {
	x = copyWithRoom(x)
	eachList(reflect.ValueOf(&x).Elem(), func(v reflect.Value) { v.SetLen(v.Cap()) })
	return x
}

// copyWithRoom is a copy of a thing, with copies of the room behind its lists' ends.
func copyWithRoom[T any](x T) T {
	var deep func(v reflect.Value)
	deep = func(v reflect.Value) {
		switch v.Kind() {
		case reflect.Struct:
			for k := range v.NumField() {
				deep(v.Field(k))
			}
		case reflect.Slice:
			l := reflect.MakeSlice(v.Type(), v.Cap(), v.Cap())
			reflect.Copy(l, v.Slice(0, v.Cap()))
			v.Set(l.Slice(0, v.Len()))
			for k := range v.Len() {
				deep(v.Index(k))
			}
		}
	}
	deep(reflect.ValueOf(&x).Elem())
	return x
}

// spoil changes all that a thing's lists have, and the room behind them.
func spoil[T any](x T) {
	eachList(reflect.ValueOf(x), func(v reflect.Value) {
		v = v.Slice(0, v.Cap())
		for k := range v.Len() {
			fill(v.Index(k))
		}
	})
}

// kept is what is handed in while its memory is watched: such as may be, and such as may not, with what comes to something, and what is refused.
func kept() []given {
	var l []given
	all := append(nets(), fullNets()...)
	all = append(all, noNets()[:5]...)
	all = append(all, changing(sundry(), spoils()[0]), changing(sundry(), parcelSpoilAt(4)), laid(3, api.Parcel{}, api.Parcel{}))
	for k, n := range all {
		other := []api.Net{copyOf(n), all[(k+1)%len(all)]}[k%2]
		g := given{Net: n, Other: other, From: 1, To: 4, Node: 4, K: k, Num: 1, By: 9, Bytes: []byte{1, 2, 3}}
		l = append(l, g, changing(g, func(g *given) { g.Num, g.From, g.To, g.Node, g.Bytes = 2, 0, 8, 0, nil }))
		for at, p := range n.Parcels[:min(len(n.Parcels), 12)] {
			l = append(l, changing(g, func(g *given) {
				g.Num, g.From, g.To, g.Node, g.At, g.Bytes = p.Num, p.From, p.To, p.To, max(0, len(p.Bytes)-1-at%2), long(at)
			}))
		}
	}
	return l
}

// parcelSpoilAt does what makes a parcel wrong to the third one of a net.
func parcelSpoilAt(k int) func(n *api.Net) {
	return func(n *api.Net) { parcelSpoils()[k](&n.Parcels[2]) }
}

// R3: what is handed in stays as it was, the room behind a list's end too, also when what is answered is spoiled; what is answered is not spoiled with what was handed in.
func TestMemory(t *testing.T) {
	answered := tally{}
	for _, was := range kept() {
		for k, call := range calls() {
			in := roomy(was)
			before := whole(in)
			got := call(in)
			want := copyOf(got)
			spoil(got)
			if !reflect.DeepEqual(whole(in), before) {
				t.Errorf("%v of %v: it is %v", names()[k], was, in)
			}
			got = call(in)
			spoil(in)
			if !same(got, want) {
				t.Errorf("%v of %v: %v, not %v", names()[k], was, got, want)
			}
			answered[want.Err]++
		}
	}
	if answered[api.OK] < 700 {
		t.Error(answered)
	}
	answered.metAll(t, api.OK, api.ErrNet, api.ErrArg, api.ErrNone, api.ErrThere, api.ErrFull)
}

// R3: no two lists of one answer share memory, and what stands behind their ends is nobody's.
func TestMemoryWithin(t *testing.T) {
	for _, was := range kept() {
		for k, call := range calls() {
			got, seen := call(was), map[uintptr]bool{}
			eachList(reflect.ValueOf(&got).Elem(), func(v reflect.Value) {
				room := v.Slice(0, v.Cap())
				for at := range room.Len() {
					place := room.Index(at).Addr().Pointer()
					if seen[place] {
						t.Errorf("%v of %v: lists of %v share memory", names()[k], was, got)
					}
					seen[place] = true
				}
			})
			want := call(was)
			eachList(reflect.ValueOf(got), func(v reflect.Value) {
				room := v.Slice(v.Len(), v.Cap())
				for at := range room.Len() {
					fill(room.Index(at))
				}
			})
			if !same(got, want) {
				t.Errorf("%v of %v: %v, not %v", names()[k], was, got, want)
			}
		}
	}
}

// R3: the bytes of each parcel that is answered are its own: what is done to these reaches no other one, neither of the answer nor of what was handed in.
func TestEachParcelsBytes(t *testing.T) {
	for _, g := range kept() {
		for k, call := range calls() {
			before := copyOf(g)
			got := call(g)
			for place, p := range append(slices.Clone(got.Net.Parcels), got.Parcel) {
				want := copyOf(got)
				b := p.Bytes[:cap(p.Bytes)]
				for at := range b {
					b[at] ^= 0xA5
				}
				after := copyOf(got)
				for _, x := range []*answer{&want, &after} {
					if place < len(x.Net.Parcels) {
						x.Net.Parcels[place].Bytes = nil
					} else {
						x.Parcel.Bytes = nil
					}
				}
				if !same(after, want) || !same(g, before) {
					t.Errorf("%v of %v: %v, not %v", names()[k], before, after, want)
				}
			}
		}
	}
}

// R3: what is appended to an answer reaches neither what was handed in nor another answer.
func TestAnswersApart(t *testing.T) {
	in := roomy(given{Net: sundry()}).Net
	before := whole(in)
	first, a, e := net.Send(in, 1, 4, nil)
	second, b, f := net.Send(in, 4, 1, []byte{1})
	third, p, h := net.Come(in, 3)
	fourth, c, i := net.Twin(in, 3)
	want := []api.Net{copyOf(first), copyOf(second), copyOf(third), copyOf(fourth)}
	if e != api.OK || f != api.OK || h != api.OK || i != api.OK || a != 21 || b != 21 || c != 21 || p.Num != 3 {
		t.Error(a, b, c, p, e, f, h, i)
	}
	for k, n := range []*api.Net{&first, &second, &third, &fourth} {
		_ = append(n.Parcels, parcel(99, 1, 2))
		clear(n.Parcels[0].Bytes)
		spoil(*n)
		for m, other := range []api.Net{first, second, third, fourth} {
			if m > k && !same(other, want[m]) {
				t.Error(k, m, other, want[m])
			}
		}
	}
	if !reflect.DeepEqual(whole(in), before) {
		t.Error(in)
	}
}

// R3: bytes that were sent are apart from those that were handed in, whatever stands behind these.
func TestApartFromBytes(t *testing.T) {
	b := []byte{1, 2, 3, 4, 5, 6}
	n, num, e := net.Send(api.Net{}, 1, 4, b[1:3])
	clear(b)
	if e != api.OK || num != 1 || !same(n, laid(1, parcel(1, 1, 4, 2, 3))) {
		t.Error(n, num, e)
	}
	b = []byte{1, 2, 3, 4, 5, 6}
	n, _, _ = net.Send(api.Net{}, 1, 4, b[1:3])
	n.Parcels[0].Bytes = append(n.Parcels[0].Bytes, 99)
	n.Parcels[0].Bytes[0] = 77
	if !slices.Equal(b, []byte{1, 2, 3, 4, 5, 6}) {
		t.Error(b)
	}
}

// R3, R5: nothing is kept: what is done to an answer, or to what was handed in, or asked in between, reaches no later answer.
func TestNothingIsKept(t *testing.T) {
	all := kept()
	for k, was := range all {
		for m, call := range calls() {
			want := copyOf(call(was))
			in := roomy(was)
			got := call(in)
			spoil(got)
			spoil(in)
			for _, other := range calls() {
				other(all[(k*7+m)%len(all)])
			}
			if again := call(was); !same(again, want) {
				t.Errorf("%v of %v: %v, not %v", names()[m], was, again, want)
			}
		}
	}
}

// R3: nil and empty lists are one, in whatever is handed in.
func TestNilAndEmpty(t *testing.T) {
	for _, g := range kept() {
		empty := copyOf(g)
		eachList(reflect.ValueOf(&empty).Elem(), func(v reflect.Value) {
			if v.Len() == 0 {
				v.Set(reflect.MakeSlice(v.Type(), 0, 2))
			}
		})
		for k, call := range calls() {
			if got, want := call(empty), call(copyOf(g)); !same(got, want) {
				t.Errorf("%v of %v: %v, not %v", names()[k], g, got, want)
			}
		}
	}
}

// R2: beside an error there is nothing; and each call answers what the words say.
func TestNothingBesideAnError(t *testing.T) {
	refused := tally{}
	for _, g := range kept() {
		for _, name := range names() {
			got := asRule(t, name, g)
			if got.Err != api.OK && !same(got, answer{Err: got.Err}) {
				t.Errorf("%v of %v: %v", name, g, got)
			}
			refused[got.Err]++
		}
	}
	refused.metAll(t, api.OK, api.ErrNet, api.ErrArg, api.ErrNone, api.ErrThere, api.ErrFull)
}
