package world_test

import (
	"slices"

	"bowsprit/api"
	"bowsprit/catalog"
	"bowsprit/coord"
	"bowsprit/frame"
	"bowsprit/net"
	"bowsprit/place"
	"bowsprit/worker"
)

// What the chapter says, reckoned apart from the program: what the layers below say of their own things is left to them, but each event is done to the whole net, and a fair round is the events of which it is made, one behind the other.

func layoutByRule(w api.World) api.Layout {
	var l api.Layout
	for _, x := range w.Workers {
		l.Parts = append(l.Parts, api.Base{Tables: x.Tables})
	}
	return copyOf(l)
}

func checkByRule(w api.World) api.Errno {
	if coord.Check(w.Coord) != api.OK || net.Check(w.Net) != api.OK || place.Check(w.Coord.Worker.Catalog, layoutByRule(w)) != api.OK {
		return api.ErrWorld
	}
	node := 0
	for _, x := range w.Workers {
		node++
		if worker.Check(x) != api.OK || x.Node != node || x.Sites != w.Coord.Worker.Sites || !catalog.Same(x.Catalog, w.Coord.Worker.Catalog) {
			return api.ErrWorld
		}
	}
	if node != w.Coord.Worker.Sites {
		return api.ErrWorld
	}
	return api.OK
}

func newByRule(g given) answer {
	if e := place.Check(g.Catalog, g.Layout); e != api.OK {
		return answer{Err: e}
	}
	return answer{World: worldOf(g.Catalog, g.Layout)}
}

// sayByRule has a message go on its way.
func sayByRule(w *api.World, from int, m api.Msg) {
	b, e := frame.Encode(m)
	if e != api.OK {
		return
	}
	if after, _, e := net.Send(w.Net, from, m.To, b); e == api.OK {
		w.Net = after
	}
}

func hearByRule(w *api.World, p api.Parcel) {
	m, e := frame.Decode(p.Bytes)
	if e != api.OK {
		return
	}
	if p.To == 0 {
		w.Coord, _ = coord.Hear(w.Coord, m)
	}
	for k := range w.Workers {
		if k+1 == p.To {
			after, said, _ := worker.Hear(w.Workers[k], m)
			w.Workers[k] = after
			for _, m := range said {
				sayByRule(w, p.To, m)
			}
		}
	}
}

func tickByRule(w *api.World, node int) api.Errno {
	var said []api.Msg
	switch {
	case node == 0:
		w.Coord, said, _ = coord.Tick(w.Coord)
	case slices.Contains(numbers(1, len(w.Workers)), node):
		w.Workers[node-1], said, _ = worker.Tick(w.Workers[node-1])
	default:
		return api.ErrArg
	}
	for _, m := range said {
		sayByRule(w, node, m)
	}
	return api.OK
}

// doneByRule is what an event does to a world that may be, and has memory of its own.
func doneByRule(w api.World, e api.Event) (after api.World, r api.Reply) {
	after = w
	var num uint64
	switch e.Kind {
	case 1:
		after.Coord, r.N, r.Err = coord.Submit(w.Coord, e.Text)
	case 2:
		after.Coord, r.Err = coord.Cancel(w.Coord, e.Epoch)
	case 3:
		r.Err = tickByRule(&after, e.Node)
	case 4:
		var p api.Parcel
		if after.Net, p, r.Err = net.Come(w.Net, e.Num); r.Err == api.OK {
			hearByRule(&after, p)
		}
	case 5:
		after.Net, r.Err = net.Lose(w.Net, e.Num)
	case 6:
		after.Net, r.N, r.Err = net.Drop(w.Net, e.Node, e.To)
	case 7:
		after.Net, num, r.Err = net.Twin(w.Net, e.Num)
		r.N = int(num)
	case 8:
		after.Net, r.Err = net.Spoil(w.Net, e.Num, e.At, e.By)
	default:
		r.Err = 391
	}
	if r.Err != api.OK {
		return w, api.Reply{Err: r.Err}
	}
	return after, r
}

func doByRule(g given) answer {
	w := copyOf(g.World)
	if checkByRule(w) != api.OK {
		return answer{World: w, Reply: api.Reply{Err: 390}, Err: 390}
	}
	after, r := doneByRule(w, g.Event)
	return answer{World: after, Reply: r, Err: r.Err}
}

func runByRule(g given) answer {
	a := newByRule(g)
	if len(g.Events) > 5000 {
		return answer{Err: api.ErrLong}
	}
	if a.Err != api.OK {
		return a
	}
	for _, e := range g.Events {
		after, r := doneByRule(a.World, e)
		a.World, a.Replies = after, append(a.Replies, r)
	}
	return a
}

// roundByRule tells the events of a fair round, and what the world is behind them.
func roundByRule(w api.World) (api.World, []api.Event) {
	var l []api.Event
	for node := 0; node <= len(w.Workers); node++ {
		l = append(l, tick(node))
		w, _ = doneByRule(w, l[len(l)-1])
	}
	for num, is := net.Pick(w.Net, 0); is; num, is = net.Pick(w.Net, 0) {
		l = append(l, come(num))
		w, _ = doneByRule(w, l[len(l)-1])
	}
	return w, l
}

func roundsByRule(g given) answer {
	w := copyOf(g.World)
	switch {
	case checkByRule(w) != api.OK:
		return answer{Err: api.ErrWorld}
	case !slices.Contains(numbers(0, 1000), g.N):
		return answer{Err: api.ErrArg}
	}
	for n := g.N; n > 0; n-- {
		after, _ := roundByRule(w)
		if same(after, w) {
			break // so it is behind all others, too
		}
		w = after
	}
	return answer{World: w}
}

// rules are what calls answer by rule, in the order of calls.
func rules() []func(g given) answer {
	return []func(g given) answer{
		func(g given) answer { return answer{Err: checkByRule(g.World)} },
		newByRule,
		func(g given) answer {
			if checkByRule(g.World) != api.OK {
				return answer{Err: api.ErrWorld}
			}
			return answer{Layout: layoutByRule(g.World)}
		},
		doByRule, runByRule, roundsByRule,
		func(g given) answer { return answer{Is: same(g.World, g.Other)} },
	}
}
