package net_test

import (
	"math"
	"math/rand"
	"reflect"
	"testing"

	"bowsprit/api"
)

// P24.1: nets that may be, and such that may not, each for one reason.
func TestCheck(t *testing.T) {
	for _, n := range nets() {
		isNet(t, true, n)
	}
	for _, n := range noNets() {
		isNet(t, false, n)
	}
}

// P24.1: Sent 0, 1, MaxSent and one more, at the ends of 64 bits; with parcels, too.
func TestCheckSent(t *testing.T) {
	for _, sent := range []uint64{0, 1, 2, 1<<32 - 1, 1 << 32, api.MaxSent - 1, api.MaxSent} {
		isNet(t, true, laid(sent))
		isNet(t, sent >= 1, laid(sent, parcel(1, 1, 2)))
		isNet(t, sent >= 1, laid(sent, parcel(sent, 1, 2, 9)))
	}
	for _, sent := range []uint64{api.MaxSent + 1, api.MaxSent + 2, 2 * api.MaxSent, math.MaxInt64, 1 << 63, math.MaxUint64} {
		isNet(t, false, laid(sent))
		isNet(t, false, laid(sent, parcel(1, 1, 2)))
		isNet(t, false, laid(sent, parcel(sent, 1, 2)))
	}
}

// P24.1: Nums 0, 1, Sent and one more, the same twice, falling, with gaps.
func TestCheckNums(t *testing.T) {
	of := func(sent uint64, nums ...uint64) api.Net {
		n := laid(sent)
		for _, num := range nums {
			n.Parcels = append(n.Parcels, parcel(num, 1, 2, 5))
		}
		return n
	}
	for _, n := range []api.Net{of(5, 1), of(5, 5), of(5, 1, 2, 3, 4, 5), of(5, 1, 5), of(5, 2, 4), of(5, 3), of(6, 1, 2, 5), of(api.MaxSent, 1, api.MaxSent), of(api.MaxSent, api.MaxSent-1)} {
		isNet(t, true, n)
	}
	for _, n := range []api.Net{
		of(5, 0), of(5, 0, 1), of(5, 1, 0), of(5, 6), of(5, 1, 6), of(5, 5, 6), of(5, 1, 6, 2), of(5, 1, 1), of(5, 5, 5), of(5, 1, 3, 3, 4), of(5, 1, 2, 4, 4), of(5, 2, 1), of(5, 1, 4, 3), of(5, 3, 2, 4), of(5, 1, 5, 2), of(5, 1, 2, 1),
		of(0, 0), of(0, 1), of(0, math.MaxUint64), of(5, math.MaxUint64), of(5, 1, math.MaxUint64), of(api.MaxSent, api.MaxSent+1), of(api.MaxSent, 1<<63), of(math.MaxUint64, math.MaxUint64), of(5, 1<<32), of(5, 1, 1<<32+2),
	} {
		isNet(t, false, n)
	}
}

// P24.1: no parcels, one, MaxWay and one more.
func TestCheckMaxWay(t *testing.T) {
	for _, count := range []int{0, 1, 2, api.MaxWay - 1, api.MaxWay} {
		isNet(t, true, many(count))
		isNet(t, true, changing(many(count), func(n *api.Net) { n.Sent = api.MaxSent }))
	}
	for _, count := range []int{api.MaxWay + 1, api.MaxWay + 2, 2 * api.MaxWay} {
		isNet(t, false, many(count))
	}
	isNet(t, false, changing(many(api.MaxWay), func(n *api.Net) { n.Sent = uint64(2*api.MaxWay - 2) }))
	for _, deed := range spoils() {
		isNet(t, false, changing(many(api.MaxWay), deed))
	}
}

// P24.1: From and To: each from below 0 to above MaxSites, both of them, and the same.
func TestCheckNodes(t *testing.T) {
	nodes := []int{math.MinInt, math.MinInt32, -9, -1, 0, 1, 2, 3, 4, 5, 6, 7, 8, 9, 10, 16, 17, 256, 1 << 32, math.MaxInt32, math.MaxInt}
	for _, from := range nodes {
		for _, to := range nodes {
			may := from >= 0 && from <= api.MaxSites && to >= 0 && to <= api.MaxSites && from != to
			isNet(t, may, laid(1, parcel(1, from, to)))
			isNet(t, may, laid(3, parcel(1, 1, 2), turned(2, from, to, 1), parcel(3, 2, 1)))
		}
	}
}

// P24.1: Bytes of none, one, MaxParcel and one more; Spoiled with a byte, and without one.
func TestCheckBytes(t *testing.T) {
	for _, count := range []int{0, 1, 2, 1 << 15, api.MaxParcel - 1, api.MaxParcel, api.MaxParcel + 1, api.MaxParcel + 2, 1 << 16, 2 * api.MaxParcel} {
		isNet(t, count <= api.MaxParcel, laid(1, parcel(1, 1, 2, long(count)...)))
		isNet(t, count <= api.MaxParcel && count > 0, laid(1, turned(1, 1, 2, long(count)...)))
		isNet(t, count <= api.MaxParcel, laid(3, parcel(1, 1, 2), parcel(3, 2, 1, long(count)...)))
	}
	isNet(t, false, laid(1, api.Parcel{Num: 1, From: 1, To: 2, Bytes: []byte{}, Spoiled: true}))
	isNet(t, true, laid(1, api.Parcel{Num: 1, From: 1, To: 2, Bytes: []byte{}}))
	isNet(t, true, laid(1, turned(1, 1, 2, 0)))
}

// strew changes a thing here and there by chance; of bytes just how many they are.
func strew(chance *rand.Rand, v reflect.Value) {
	odd := []uint64{0, 1, 2, 3, 4, 7, 8, 9, 10, 17, 20, 21, api.MaxSent - 1, api.MaxSent, api.MaxSent + 1, math.MaxInt64, 1 << 63, math.MaxUint64}
	n := odd[chance.Intn(len(odd))]
	here := chance.Intn(12) == 0
	switch v.Kind() {
	case reflect.Struct:
		for k := range v.NumField() {
			strew(chance, v.Field(k))
		}
	case reflect.Slice:
		for k := range v.Len() {
			strew(chance, v.Index(k))
		}
		switch {
		case here && v.Len() > 0 && chance.Intn(2) == 0:
			v.Set(reflect.AppendSlice(v, v.Slice(0, 1+chance.Intn(v.Len()))))
		case here && v.Len() > 0:
			v.SetLen(chance.Intn(v.Len()))
		case here:
			v.Set(reflect.MakeSlice(v.Type(), 1+chance.Intn(3), 4))
		}
	case reflect.Bool:
		v.SetBool(v.Bool() != here)
	default:
		switch {
		case !here:
		case v.CanInt() && chance.Intn(2) == 0:
			v.SetInt(v.Int() + int64(n%3) - 1)
		case v.CanInt():
			v.SetInt(int64(n))
		case chance.Intn(2) == 0:
			v.SetUint(v.Uint() + n%3 - 1)
		default:
			v.SetUint(n)
		}
	}
}

// P24.1, R1: nets of chance, of which some may be, and some may not; whatever is handed in, each call ends and answers what the words say.
func TestWhatever(t *testing.T) {
	chance := rand.New(rand.NewSource(241))
	all, met, may := nets(), tally{}, 0
	for range 20000 {
		g := given{Net: all[chance.Intn(len(all))], From: 1, To: 4, At: 0, Node: 4, K: chance.Intn(30), Num: uint64(1 + chance.Intn(20)), By: 1, Bytes: []byte{1, 2}}
		g.Other = g.Net
		g = copyOf(g)
		strew(chance, reflect.ValueOf(&g).Elem())
		for _, name := range names() {
			met[asRule(t, name, g).Err]++
		}
		if checkByRule(g.Net) == api.OK {
			may++
		}
	}
	if met.metAll(t, api.OK, api.ErrNet, api.ErrArg, api.ErrNone, api.ErrThere, api.ErrFull); may < 5000 || may > 15000 {
		t.Error(may)
	}
}
