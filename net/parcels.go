package net

import (
	"bytes"
	"cmp"
	"iter"
	"slices"

	"bowsprit/api"
)

// isNode tells whether a node may have that number.
func isNode(node int) bool {
	return node >= 0 && node <= api.MaxSites
}

// isWay tells whether a parcel may be on its way between such nodes.
func isWay(from, to int) bool {
	return isNode(from) && isNode(to) && from != to
}

// mayBe tells whether a parcel, but for its Num, may be.
func mayBe(p api.Parcel) bool {
	return isWay(p.From, p.To) && len(p.Bytes) <= api.MaxParcel && (len(p.Bytes) > 0 || !p.Spoiled)
}

// sameParcel holds such that may not be against one another, too.
func sameParcel(a, b api.Parcel) bool {
	return a.Num == b.Num && a.From == b.From && a.To == b.To && bytes.Equal(a.Bytes, b.Bytes) && a.Spoiled == b.Spoiled
}

// those goes over the parcels of which something holds, in their order.
func those(n api.Net, holds func(p api.Parcel) bool) iter.Seq[api.Parcel] {
	return func(yield func(api.Parcel) bool) {
		for _, p := range n.Parcels {
			if holds(p) && !yield(p) {
				return
			}
		}
	}
}

// find tells the place of the parcel of a Num; the net has to be one that may be, for then the Nums rise.
func find(n api.Net, num uint64) (int, bool) {
	return slices.BinarySearchFunc(n.Parcels, num, func(p api.Parcel, num uint64) int {
		return cmp.Compare(p.Num, num)
	})
}

// copyOf is a net with parcels, and bytes of these, of its own.
func copyOf(n api.Net) api.Net {
	parcels := make([]api.Parcel, len(n.Parcels))
	copy(parcels, n.Parcels)
	for place := range parcels {
		parcels[place].Bytes = bytes.Clone(parcels[place].Bytes)
	}
	n.Parcels = parcels
	return n
}

// changed is what becomes of a net by what is done to it, unless the net may not be, or that is refused. It is done to a copy.
func changed(n api.Net, done func(n *api.Net) api.Errno) (api.Net, api.Errno) {
	if e := Check(n); e != api.OK {
		return api.Net{}, e
	}
	n = copyOf(n)
	if e := done(&n); e != api.OK {
		return api.Net{}, e
	}
	return n, api.OK
}

// changedAt is the same of what is done to the parcel of a Num, which has to be there.
func changedAt(n api.Net, num uint64, done func(n *api.Net, place int) api.Errno) (api.Net, api.Errno) {
	return changed(n, func(n *api.Net) api.Errno {
		place, there := find(*n, num)
		if !there {
			return api.ErrNone
		}
		return done(n, place)
	})
}

// add has a parcel stand behind the others, with a Num and bytes of its own.
func add(n *api.Net, p api.Parcel) api.Errno {
	if len(n.Parcels) == api.MaxWay || n.Sent == api.MaxSent {
		return api.ErrFull
	}
	n.Sent++
	p.Num, p.Bytes = n.Sent, bytes.Clone(p.Bytes)
	n.Parcels = append(n.Parcels, p)
	return api.OK
}
