package task

import (
	"cmp"
	"slices"

	"bowsprit/api"
	"bowsprit/link"
	"bowsprit/prop"
	"bowsprit/row"
)

// within tells whether a number stands from least to most.
func within(n, least, most int) bool {
	return least <= n && n <= most
}

// all tells whether something holds of each stream.
func all[S any](streams []S, holds func(S) bool) bool {
	return !slices.ContainsFunc(streams, func(s S) bool { return !holds(s) })
}

func areRows(rows []api.Row) bool {
	return len(rows) <= api.MaxList && !slices.ContainsFunc(rows, func(r api.Row) bool { return row.Check(r) != api.OK })
}

// areSizes tells whether there may be a query of that epoch, and so many nodes.
func areSizes(epoch, sites int) bool {
	return within(epoch, 1, api.MaxEpochs) && within(sites, 1, api.MaxSites)
}

// isFrag asks of a fragment's nodes alone: how its rows go on is asked when they do.
func isFrag(f api.Frag) bool {
	_, _, e := prop.Kinds(f.Nodes)
	return e == api.OK
}

// isPlace tells whether a task may be of such a fragment, at such a node.
func isPlace(t api.Task) bool {
	return areSizes(t.Epoch, t.Sites) && within(t.Number, 0, api.MaxFrags-1) && within(t.Node, 0, t.Sites) && isFrag(t.Frag)
}

// inOrder and outOrder are the orders in which the streams of a task stand.
func inOrder(a, b api.In) int {
	return cmp.Or(cmp.Compare(a.Frag, b.Frag), cmp.Compare(a.From, b.From))
}

func outOrder(a, b api.Out) int {
	return cmp.Compare(a.To, b.To)
}

// rise tells whether streams stand in an order, none twice.
func rise[S any](streams []S, order func(a, b S) int) bool {
	for k := range len(streams) - 1 {
		if order(streams[k], streams[k+1]) >= 0 {
			return false
		}
	}
	return true
}

func areIns(t api.Task) bool {
	return rise(t.Ins, inOrder) && all(t.Ins, func(in api.In) bool {
		return within(in.Frag, 0, api.MaxFrags-1) && within(in.From, 0, t.Sites) && isReceiver(t, in.Receiver) && areRows(in.Rows)
	})
}

// isReceiver tells whether a task may have such a one: whatever can be taken was taken.
func isReceiver(t api.Task, r api.Receiver) bool {
	return link.CheckReceiver(r) == api.OK && r.Session == session(t) && r.Room == api.MaxHold && len(r.Buffer) == 0
}

func areOuts(t api.Task) bool {
	return rise(t.Outs, outOrder) && all(t.Outs, func(out api.Out) bool {
		s := out.Sender
		return within(out.To, 0, t.Sites) && link.CheckSender(s) == api.OK && s.Session == session(t) && areRows(out.Rest)
	})
}

// session is that of all streams of a task whose Epoch may be.
func session(t api.Task) uint32 {
	return uint32(t.Epoch)
}

// isOfState tells whether a task, whose streams and Rows may be, is as its State says.
func isOfState(t api.Task) bool {
	if t.State != api.TaskGathers && !hasAll(t) {
		return false
	}
	switch t.State {
	case api.TaskGathers:
		return isUnsent(t) && len(t.Rows) == 0 && t.Err == api.OK
	case api.TaskSends:
		return !isSent(t) && mayHaveRows(t) && t.Err == api.OK
	case api.TaskDone:
		return isSent(t) && mayHaveRows(t) && t.Err == api.OK
	case api.TaskFell:
		return isUnsent(t) && len(t.Rows) == 0 && (t.Err == api.ErrFault || t.Err == api.ErrOver)
	}
	return false
}

// hasAll tells whether all came that there is to come.
func hasAll(t api.Task) bool {
	return all(t.Ins, func(in api.In) bool { return in.Receiver.Over })
}

// isUnsent tells whether nothing is sent, and nothing is to be; acknowledgements may have come ahead of that.
func isUnsent(t api.Task) bool {
	return all(t.Outs, func(out api.Out) bool {
		fresh, _ := link.Open(session(t))
		fresh.Limit = out.Sender.Limit
		return len(out.Rest) == 0 && link.SameSender(out.Sender, fresh)
	})
}

// isSent tells whether all was sent, and acknowledged.
func isSent(t api.Task) bool {
	return all(t.Outs, func(out api.Out) bool {
		return len(out.Rest) == 0 && out.Sender.Ended && len(out.Sender.Queue) == 0
	})
}

func mayHaveRows(t api.Task) bool {
	return t.Frag.Way == api.WayRoot || len(t.Rows) == 0
}
