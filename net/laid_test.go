package net_test

import (
	"bytes"
	"math"
	"reflect"

	"bowsprit/api"
)

// farthest is the node of the greatest number.
const farthest = api.MaxSites

func parcel(num uint64, from, to int, b ...byte) api.Parcel {
	return api.Parcel{Num: num, From: from, To: to, Bytes: b}
}

// turned is a parcel that is Spoiled.
func turned(num uint64, from, to int, b ...byte) api.Parcel {
	p := parcel(num, from, to, b...)
	p.Spoiled = true
	return p
}

func laid(sent uint64, parcels ...api.Parcel) api.Net {
	return api.Net{Sent: sent, Parcels: parcels}
}

// long is so many bytes, no two of which that stand together are the same.
func long(count int) []byte {
	b := make([]byte, count)
	for k := range b {
		b[k] = byte(k*7 + k>>8)
	}
	return b
}

// sundry is a net of all kinds of parcels: its Nums have gaps at both ends and between them, some parcels are alike but for their Nums, some go the way of others the other way round.
func sundry() api.Net {
	return laid(20,
		parcel(2, 1, 4, 7), turned(3, 4, 1, 6, 5), parcel(4, 1, 4, 7), parcel(6, 0, farthest), parcel(9, 4, 0, 8, 0, 255),
		turned(10, 1, 4, 9), parcel(11, farthest, 0, 1, 2, 3, 4), parcel(15, 2, 4, 7), parcel(16, 1, 5, 7), parcel(18, 1, 4))
}

// many is a net of so many parcels, of all odd Nums up to Sent.
func many(count int) api.Net {
	n := laid(uint64(2 * count))
	for k := range count {
		p := parcel(uint64(2*k+1), k%3, 3+k%2, byte(k), byte(k>>8))
		p.Spoiled = k%5 == 0
		n.Parcels = append(n.Parcels, p)
	}
	return n
}

// highest is a net of which the last Num is Sent, at the most that this may be.
func highest(sent uint64) api.Net {
	return laid(sent, parcel(1, 2, 3, 1), turned(sent-1, 3, 2, 4), parcel(sent, 2, 3, 5))
}

// nets may be.
func nets() []api.Net {
	return []api.Net{
		{}, laid(1), laid(7), laid(api.MaxSent - 1), laid(api.MaxSent),
		laid(1, parcel(1, 1, 4, 7)), laid(1, turned(1, 0, farthest, 7)), laid(2, parcel(1, farthest, 0)), laid(2, parcel(2, 4, 3, 1, 2)),
		laid(2, parcel(1, 1, 4, 7), parcel(2, 4, 0, 8)), laid(3, parcel(1, 1, 4, 7), turned(3, 1, 4, 6)), laid(4, turned(2, 3, 4, 1, 2), parcel(3, 3, 4, 1, 2)),
		sundry(), highest(api.MaxSent - 1), highest(api.MaxSent), laid(5, parcel(5, 6, 7, long(300)...)), many(40),
	}
}

// changing is a thing of which one thing is another.
func changing[T any](x T, change func(*T)) T {
	x = copyOf(x)
	change(&x)
	return x
}

// spoils are deeds behind each of which a net of at least three parcels may not be, for one reason.
func spoils() []func(n *api.Net) {
	l := []func(n *api.Net){
		func(n *api.Net) { n.Sent = n.Parcels[len(n.Parcels)-1].Num - 1 },
		func(n *api.Net) { n.Sent = 0 },
		func(n *api.Net) { n.Sent = api.MaxSent + 1 },
		func(n *api.Net) { n.Sent = math.MaxInt64 },
		func(n *api.Net) { n.Sent = math.MaxUint64 },
		func(n *api.Net) { n.Parcels[0].Num = 0 },
		func(n *api.Net) { n.Parcels[len(n.Parcels)-1].Num = n.Sent + 1 },
		func(n *api.Net) { n.Parcels[len(n.Parcels)-1].Num = math.MaxUint64 },
	}
	for _, place := range []func(n *api.Net) int{func(*api.Net) int { return 0 }, func(n *api.Net) int { return 1 }, func(n *api.Net) int { return len(n.Parcels) - 2 }} {
		l = append(l,
			func(n *api.Net) { n.Parcels[place(n)].Num = n.Parcels[place(n)+1].Num },
			func(n *api.Net) { n.Parcels[place(n)].Num = n.Parcels[place(n)+1].Num + 1 },
			func(n *api.Net) {
				n.Parcels[place(n)].Num, n.Parcels[place(n)+1].Num = n.Parcels[place(n)+1].Num, n.Parcels[place(n)].Num
			},
			func(n *api.Net) { n.Parcels[place(n)+1].Num = 0 })
	}
	for _, deed := range parcelSpoils() {
		l = append(l, func(n *api.Net) { deed(&n.Parcels[0]) }, func(n *api.Net) { deed(&n.Parcels[1]) }, func(n *api.Net) { deed(&n.Parcels[len(n.Parcels)-1]) })
	}
	return l
}

// parcelSpoils are deeds behind each of which a parcel may not be, for one reason.
func parcelSpoils() []func(p *api.Parcel) {
	l := []func(p *api.Parcel){
		func(p *api.Parcel) { p.To = p.From },
		func(p *api.Parcel) { p.From = p.To },
		func(p *api.Parcel) { p.From, p.To = 0, 0 },
		func(p *api.Parcel) { p.From, p.To = farthest, farthest },
		func(p *api.Parcel) { p.Bytes, p.Spoiled = nil, true },
		func(p *api.Parcel) { p.Bytes, p.Spoiled = []byte{}, true },
		func(p *api.Parcel) { p.Bytes, p.Spoiled = long(api.MaxParcel+1), false },
		func(p *api.Parcel) { p.Bytes, p.Spoiled = long(api.MaxParcel+1), true },
	}
	for _, node := range []int{math.MinInt, -2, -1, farthest + 1, farthest + 2, math.MaxInt} {
		l = append(l, func(p *api.Parcel) { p.From = node }, func(p *api.Parcel) { p.To = node }, func(p *api.Parcel) { p.From, p.To = node, node })
	}
	return l
}

// noNets may not be, each for one reason.
func noNets() []api.Net {
	l := []api.Net{laid(api.MaxSent + 1), laid(math.MaxUint64), laid(0, parcel(0, 1, 2)), laid(0, parcel(1, 1, 2)), laid(1, parcel(2, 1, 2, 1)), many(api.MaxWay + 1)}
	for _, deed := range spoils() {
		l = append(l, changing(sundry(), deed), changing(highest(api.MaxSent), deed), changing(laid(3, parcel(1, 1, 2), turned(2, 2, 1, 5), parcel(3, 1, 2, 5)), deed))
	}
	return l
}

// shape gives a thing memory of its own; empty lists are nil there.
func shape(v reflect.Value) {
	switch v.Kind() {
	case reflect.Struct:
		for k := range v.NumField() {
			shape(v.Field(k))
		}
	case reflect.Slice:
		if v.Len() == 0 {
			v.SetZero()
			return
		}
		l := reflect.MakeSlice(v.Type(), v.Len(), v.Len())
		reflect.Copy(l, v)
		v.Set(l)
		if v.Type().Elem().Kind() == reflect.Uint8 {
			return // nothing stands within bytes
		}
		for k := range v.Len() {
			shape(v.Index(k))
		}
	}
}

// copyOf is a thing with memory of its own.
func copyOf[T any](x T) T {
	shape(reflect.ValueOf(&x).Elem())
	return x
}

// same holds things against one another without the program.
func same[T any](a, b T) bool {
	return reflect.DeepEqual(a, b) || reflect.DeepEqual(copyOf(a), copyOf(b)) // the first is much less work, and mostly enough
}

// short is what is told of a net in a test's words: of many parcels only a few.
func short(n api.Net) api.Net {
	n.Parcels = n.Parcels[:min(len(n.Parcels), 20)]
	n = copyOf(n)
	for k, p := range n.Parcels {
		n.Parcels[k].Bytes = bytes.Clone(p.Bytes[:min(len(p.Bytes), 20)])
	}
	return n
}
