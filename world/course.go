package world

import (
	"cmp"
	"iter"
	"slices"

	"bowsprit/api"
	"bowsprit/coord"
	"bowsprit/frame"
	"bowsprit/net"
	"bowsprit/worker"
)

// course is a world that goes on. It may be, and has memory of its own.
type course struct {
	api.World
}

// does is what happens by each Kind.
func (c *course) does() map[int]func(e api.Event) api.Reply {
	return map[int]func(e api.Event) api.Reply{
		api.EvSubmit: c.submit,
		api.EvCancel: c.cancel,
		api.EvTick:   c.tick,
		api.EvCome:   c.come,
		api.EvLose:   c.lose,
		api.EvDrop:   c.drop,
		api.EvTwin:   c.twin,
		api.EvSpoil:  c.spoil,
	}
}

func (c *course) do(e api.Event) api.Reply {
	do := c.does()[e.Kind]
	if do == nil {
		return api.Reply{Err: api.ErrEvent}
	}
	return do(e)
}

// sends has what a node says go on its way.
func (c *course) sends(from int, l ...api.Msg) {
	for _, m := range l {
		if b, e := frame.Encode(m); e == api.OK {
			c.send(from, m.To, b)
		}
	}
}

// send lays a parcel behind the others. It is made by a net that has no others: what a call of net costs grows with all that it is handed, and many parcels are sent by one event.
func (c *course) send(from, to int, b []byte) {
	if len(c.Net.Parcels) == api.MaxWay {
		return
	}
	one, _, e := net.Send(api.Net{Sent: c.Net.Sent}, from, to, b)
	if e != api.OK {
		return
	}
	c.Net.Sent = one.Sent
	c.Net.Parcels = append(c.Net.Parcels, one.Parcels...)
}

// take has the parcel of a Num come. Net is handed just the one at its place, as at send; another one there is none of that Num.
func (c *course) take(num uint64) (api.Parcel, api.Errno) {
	all := c.Net.Parcels
	at, _ := slices.BinarySearchFunc(all, num, func(p api.Parcel, num uint64) int { return cmp.Compare(p.Num, num) })
	one := api.Net{Sent: c.Net.Sent, Parcels: all[at:min(at+1, len(all))]}
	_, p, e := net.Come(one, num)
	switch {
	case e != api.OK:
	case at == 0: // mostly it is: then nothing needs to be moved
		c.Net.Parcels = all[1:]
	default:
		c.Net.Parcels = slices.Delete(all, at, at+1)
	}
	return p, e
}

// hears has the node hear to which a parcel came, if its bytes are a message's, and there is such a node.
func (c *course) hears(p api.Parcel) {
	m, e := frame.Decode(p.Bytes)
	switch {
	case e != api.OK:
	case p.To == 0:
		c.Coord, _ = coord.Hear(c.Coord, m)
	case p.To <= len(c.Workers):
		w, said, _ := worker.Hear(c.Workers[p.To-1], m)
		c.Workers[p.To-1] = w
		c.sends(p.To, said...)
	}
}

// ticks has a node tick that there is.
func (c *course) ticks(node int) {
	var said []api.Msg
	if node == 0 {
		c.Coord, said, _ = coord.Tick(c.Coord)
	} else {
		x := &c.Workers[node-1]
		*x, said, _ = worker.Tick(*x)
	}
	c.sends(node, said...)
}

// coming goes over the parcels that come, the first one of all ahead, as long as there is one; what is sent meanwhile comes, too.
func (c *course) coming() iter.Seq[api.Parcel] {
	return func(yield func(api.Parcel) bool) {
		for len(c.Net.Parcels) > 0 {
			p, _ := c.take(c.Net.Parcels[0].Num)
			if !yield(p) {
				return
			}
		}
	}
}

// round is a fair one.
func (c *course) round() {
	for node := range len(c.Workers) + 1 {
		c.ticks(node)
	}
	for p := range c.coming() {
		c.hears(p)
	}
}

func (c *course) submit(e api.Event) api.Reply {
	after, epoch, why := coord.Submit(c.Coord, e.Text)
	if why != api.OK {
		return api.Reply{Err: why}
	}
	c.Coord = after
	return api.Reply{N: epoch}
}

func (c *course) cancel(e api.Event) api.Reply {
	after, why := coord.Cancel(c.Coord, e.Epoch)
	if why != api.OK {
		return api.Reply{Err: why}
	}
	c.Coord = after
	return api.Reply{}
}

func (c *course) tick(e api.Event) api.Reply {
	if e.Node < 0 || e.Node > len(c.Workers) {
		return api.Reply{Err: api.ErrArg}
	}
	c.ticks(e.Node)
	return api.Reply{}
}

func (c *course) come(e api.Event) api.Reply {
	p, why := c.take(e.Num)
	if why != api.OK {
		return api.Reply{Err: why}
	}
	c.hears(p)
	return api.Reply{}
}

// turns has the net be what net made of it, unless that was refused.
func (c *course) turns(after api.Net, n int, why api.Errno) api.Reply {
	if why != api.OK {
		return api.Reply{Err: why}
	}
	c.Net = after
	return api.Reply{N: n}
}

func (c *course) lose(e api.Event) api.Reply {
	after, why := net.Lose(c.Net, e.Num)
	return c.turns(after, 0, why)
}

func (c *course) drop(e api.Event) api.Reply {
	return c.turns(net.Drop(c.Net, e.Node, e.To))
}

func (c *course) twin(e api.Event) api.Reply {
	after, num, why := net.Twin(c.Net, e.Num)
	return c.turns(after, int(num), why)
}

func (c *course) spoil(e api.Event) api.Reply {
	after, why := net.Spoil(c.Net, e.Num, e.At, e.By)
	return c.turns(after, 0, why)
}
