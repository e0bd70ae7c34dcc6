package world

import (
	"bowsprit/api"
	"bowsprit/catalog"
	"bowsprit/coord"
	"bowsprit/net"
	"bowsprit/place"
	"bowsprit/worker"
)

// layoutOf is the tables of all workers, as parts.
func layoutOf(w api.World) api.Layout {
	l := api.Layout{Parts: make([]api.Base, len(w.Workers))}
	for before, x := range w.Workers {
		l.Parts[before].Tables = x.Tables
	}
	return l
}

// isWorld tells whether a world may be.
func isWorld(w api.World) bool {
	if coord.Check(w.Coord) != api.OK || net.Check(w.Net) != api.OK || !areWorkers(w) {
		return false
	}
	return place.Check(w.Coord.Worker.Catalog, layoutOf(w)) == api.OK
}

// areWorkers tells whether the workers are those of the coordinator's nodes, and may be.
func areWorkers(w api.World) bool {
	own := w.Coord.Worker
	if len(w.Workers) != own.Sites {
		return false
	}
	for before, x := range w.Workers {
		isThere := x.Node == before+1 && x.Sites == own.Sites && catalog.Same(x.Catalog, own.Catalog)
		if !isThere || worker.Check(x) != api.OK {
			return false
		}
	}
	return true
}
