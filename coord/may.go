package coord

import (
	"iter"

	"bowsprit/api"
	"bowsprit/query"
)

// within tells whether a number stands from least to most.
func within(n, least, most int) bool {
	return least <= n && n <= most
}

// setOf is the set of a number alone, be it a node or an epoch.
func setOf(n int) uint32 {
	return 1 << n
}

func isIn(set uint32, n int) bool {
	return set&setOf(n) != 0
}

// allTo is the set of all numbers from 1 to a last one: the bit 0 is none's.
func allTo(last int) uint32 {
	return setOf(last+1) - setOf(1)
}

// entries goes over those of which something holds, in order, each by its epoch.
func entries(c api.Coord, holds func(c api.Coord, x api.Entry) bool) iter.Seq2[int, api.Entry] {
	return func(yield func(int, api.Entry) bool) {
		for place, x := range c.Entries {
			if holds(c, x) && !yield(place+1, x) {
				return
			}
		}
	}
}

// runs tells whether a query has no report yet.
func runs(_ api.Coord, x api.Entry) bool {
	return x.Life.State == api.LifeRuns
}

// isDropped tells whether the coordinator's own worker was told to drop a query: all nodes are told so, too.
func isDropped(c api.Coord, x api.Entry) bool {
	return isIn(c.Worker.Gone, x.Life.Epoch)
}

// isLoud tells whether there is something of a query that nodes are to be told, now or when it has its report.
func isLoud(c api.Coord, x api.Entry) bool {
	return runs(c, x) || isDropped(c, x) && x.Gone != allTo(c.Worker.Sites)
}

// isCoord tells whether a coordinator may be, if its worker may.
func isCoord(c api.Coord) bool {
	if c.Worker.Node != 0 || len(c.Entries) > api.MaxEpochs || (c.Worker.Has|c.Worker.Gone)&^allTo(len(c.Entries)) != 0 {
		return false
	}
	for place, x := range c.Entries {
		if x.Life.Epoch != place+1 || !isEntry(c, x) {
			return false
		}
	}
	return true
}

// isEntry tells whether an entry may be, of its Life's epoch.
func isEntry(c api.Coord, x api.Entry) bool {
	nodes := x.Has | x.Gone
	switch {
	case query.Check(x.Life) != api.OK || nodes&^allTo(c.Worker.Sites) != 0:
		return false
	case runs(c, x):
		return isIn(c.Worker.Has, x.Life.Epoch) && x.Gone == 0
	}
	return isDropped(c, x) || !isIn(c.Worker.Has, x.Life.Epoch) && nodes == 0
}
