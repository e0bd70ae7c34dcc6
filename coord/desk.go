package coord

import (
	"bowsprit/api"
	"bowsprit/frame"
	"bowsprit/query"
	"bowsprit/worker"
)

// desk is the coordinator at work: what it was, and what it says to the nodes.
type desk struct {
	api.Coord
	said []api.Msg
}

// deskOf is a desk with memory of its own, if the coordinator may be. Its worker hears what is no message: that changes nothing, and what comes of it is a copy, so that the worker is asked whether it may be as it is copied.
func deskOf(c api.Coord) (*desk, api.Errno) {
	w, _, e := worker.Hear(c.Worker, api.Msg{})
	if e != api.OK || !isCoord(c) {
		return nil, api.ErrCoord
	}
	return &desk{Coord: api.Coord{Worker: w, Entries: copied(c.Entries, copyOfEntry)}}, api.OK
}

// says lays messages behind those that were said.
func (d *desk) says(l ...api.Msg) {
	d.said = append(d.said, l...)
}

// at is the entry of an epoch.
func (d *desk) at(epoch int) *api.Entry {
	return &d.Entries[epoch-1]
}

// hears has the coordinator's own worker hear a message; to what comes from its own node it says nothing.
func (d *desk) hears(m api.Msg) {
	d.Worker, _, _ = worker.Hear(d.Worker, m)
}

// planFor tells a node of a query that runs, dropFor tells it that one is over.
func (d *desk) planFor(node, epoch int) api.Msg {
	p := copyOfPlan(d.at(epoch).Life.Program.Plan)
	return api.Msg{Kind: api.MsgPlan, To: node, Epoch: epoch, Sites: d.Worker.Sites, Plan: p}
}

func (d *desk) dropFor(node, epoch int) api.Msg {
	return api.Msg{Kind: api.MsgDrop, To: node, Epoch: epoch}
}

func (d *desk) submit(text string) api.Errno {
	epoch := len(d.Entries) + 1
	if epoch > api.MaxEpochs {
		return api.ErrFull
	}
	l, e := query.Begin(d.Worker.Catalog, epoch, text)
	if e != api.OK {
		return e
	}
	d.Entries = append(d.Entries, api.Entry{Life: l})
	if l.State == api.LifeRuns {
		d.begin(epoch)
	}
	return api.OK
}

// begin has the query told to the coordinator's own node. Of a plan that does not get even there nobody was told anything: there is nothing to be dropped.
func (d *desk) begin(epoch int) {
	d.hears(d.planFor(0, epoch))
	if x := d.at(epoch); !isIn(d.Worker.Has, epoch) {
		x.Life, _ = query.Fail(x.Life, api.ErrOver)
	}
}

// end is what becomes of a query's life, or why nothing.
type end func(l api.Life) (api.Life, api.Errno)

func byRows(rows []api.Row) end {
	return func(l api.Life) (api.Life, api.Errno) { return query.Rows(l, rows) }
}

func byFailure(why api.Errno) end {
	return func(l api.Life) (api.Life, api.Errno) { return query.Fail(l, why) }
}

// ends has a query over.
func (d *desk) ends(epoch int, by end) api.Errno {
	x := d.at(epoch)
	l, e := by(x.Life)
	if e != api.OK {
		return e
	}
	x.Life = l
	d.hears(d.dropFor(0, epoch))
	return api.OK
}

func (d *desk) cancel(epoch int) api.Errno {
	if !within(epoch, 1, len(d.Entries)) {
		return api.ErrNone
	}
	return d.ends(epoch, query.Cancel)
}

// does is what is done of each Kind; of one that does not stand here there is nothing to do.
func (d *desk) does() map[int]func(m api.Msg) {
	return map[int]func(m api.Msg){
		api.MsgHave: d.hearHave,
		api.MsgGone: d.hearGone,
		api.MsgFail: d.hearFail,
		api.MsgData: d.hears,
		api.MsgAck:  d.hears,
	}
}

func (d *desk) hear(m api.Msg) {
	do := d.does()[m.Kind]
	isFor := m.To == 0 && within(m.From, 1, d.Worker.Sites) && within(m.Epoch, 1, len(d.Entries))
	if do == nil || !isFor || frame.Check(m) != api.OK {
		return
	}
	do(m)
}

func (d *desk) hearHave(m api.Msg) {
	if x := d.at(m.Epoch); runs(d.Coord, *x) {
		x.Has |= setOf(m.From)
	}
}

func (d *desk) hearGone(m api.Msg) {
	if x := d.at(m.Epoch); isDropped(d.Coord, *x) {
		x.Gone |= setOf(m.From)
	}
}

// hearFail leaves a report that there is as it is: of a life that is over Fail makes none.
func (d *desk) hearFail(m api.Msg) {
	d.ends(m.Epoch, byFailure(m.Err))
}

func (d *desk) tick() {
	w, l, _ := worker.Tick(d.Worker)
	d.Worker = w
	d.says(l...)
	for epoch := range entries(d.Coord, runs) {
		d.settle(epoch)
	}
	for epoch, x := range entries(d.Coord, isLoud) {
		d.tell(epoch, x)
	}
}

// settle ends a query whose rows are there, or of which a task fell.
func (d *desk) settle(epoch int) {
	if rows, ok := worker.Rows(d.Worker, epoch); ok {
		if d.ends(epoch, byRows(rows)) != api.OK {
			d.ends(epoch, byFailure(api.ErrOver))
		}
	} else if why, ok := worker.Fell(d.Worker, epoch); ok {
		d.ends(epoch, byFailure(why))
	}
}

// tell says to the nodes how a query stands, but to those that said that they know.
func (d *desk) tell(epoch int, x api.Entry) {
	for before := range d.Worker.Sites {
		node := before + 1
		switch {
		case runs(d.Coord, x) && !isIn(x.Has, node):
			d.says(d.planFor(node, epoch))
		case isDropped(d.Coord, x) && !isIn(x.Gone, node):
			d.says(d.dropFor(node, epoch))
		}
	}
}
