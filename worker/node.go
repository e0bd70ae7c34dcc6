package worker

import (
	"iter"
	"slices"

	"bowsprit/api"
	"bowsprit/frame"
	"bowsprit/plan"
	"bowsprit/prop"
	"bowsprit/task"
)

// tasksOf goes over the tasks of an epoch, in order, each with its place among all.
func tasksOf(tasks []api.Task, epoch int) iter.Seq2[int, api.Task] {
	return func(yield func(int, api.Task) bool) {
		for place, t := range tasks {
			if t.Epoch == epoch && !yield(place, t) {
				return
			}
		}
	}
}

// fell tells why the first task of an epoch fell that did; false, if none did.
func fell(tasks []api.Task, epoch int) (api.Errno, bool) {
	for _, t := range tasksOf(tasks, epoch) {
		if t.State == api.TaskFell {
			return t.Err, true
		}
	}
	return api.OK, false
}

// node is a worker that hears, and what it said to others.
type node struct {
	api.Worker
	said []api.Msg
}

// says lays messages behind those that were said; what the node says to itself is heard instead.
func (n *node) says(l ...api.Msg) {
	for _, m := range l {
		if m.To == n.Node {
			n.hear(m)
		} else {
			n.said = append(n.said, m)
		}
	}
}

// tells says to the coordinator's node how an epoch stands.
func (n *node) tells(kind, epoch int) {
	n.says(api.Msg{Kind: kind, From: n.Node, To: 0, Epoch: epoch})
}

// does is what is done of each Kind; of one that does not stand here there is nothing to do.
func (n *node) does() map[int]func(m api.Msg) {
	return map[int]func(m api.Msg){
		api.MsgPlan: n.hearPlan,
		api.MsgDrop: n.hearDrop,
		api.MsgData: n.hearStream,
		api.MsgAck:  n.hearStream,
	}
}

func (n *node) hear(m api.Msg) {
	do := n.does()[m.Kind]
	if do == nil || m.To != n.Node || frame.Check(m) != api.OK {
		return
	}
	do(m)
}

func (n *node) hearPlan(m api.Msg) {
	if m.From != 0 || m.Sites != n.Sites {
		return
	}
	switch {
	case isIn(n.Gone, m.Epoch):
		n.tells(api.MsgGone, m.Epoch)
	case isIn(n.Has, m.Epoch):
		n.tells(api.MsgHave, m.Epoch)
	default:
		if _, _, e := prop.Check(m.Plan, n.Catalog); e == api.OK {
			n.begin(m.Plan, m.Epoch)
			n.tells(api.MsgHave, m.Epoch)
		}
	}
}

// begin has all tasks begun that a plan has here. There is none of the epoch yet: they stand ahead of those of the next one.
func (n *node) begin(p api.Plan, epoch int) {
	var begun []api.Task
	for frag := range p.Frags {
		places, _ := plan.Places(p, frag, n.Sites)
		if slices.Contains(places, n.Node) {
			t, _ := task.Begin(p, epoch, n.Sites, frag, n.Node)
			begun = append(begun, t)
		}
	}
	isLater := func(t api.Task) bool { return t.Epoch > epoch }
	place := slices.IndexFunc(n.Tasks, isLater)
	if place < 0 {
		place = len(n.Tasks)
	}
	n.Tasks = slices.Insert(n.Tasks, place, begun...)
	n.Has |= setOf(epoch)
}

func (n *node) hearDrop(m api.Msg) {
	if m.From != 0 {
		return
	}
	isOf := func(t api.Task) bool { return t.Epoch == m.Epoch }
	n.Tasks = slices.DeleteFunc(n.Tasks, isOf)
	n.Has &^= setOf(m.Epoch)
	n.Gone |= setOf(m.Epoch)
	n.tells(api.MsgGone, m.Epoch)
}

// hearStream leaves it to the tasks of the epoch whose stream it is.
func (n *node) hearStream(m api.Msg) {
	for place, t := range tasksOf(n.Tasks, m.Epoch) {
		n.Tasks[place], _ = task.Hear(t, m)
	}
}

// tick has nothing heard till all tasks have ticked.
func (n *node) tick() {
	for place, t := range n.Tasks {
		n.Tasks[place], _ = task.Go(t, n.Tables)
	}
	var told []api.Msg
	for place, t := range n.Tasks {
		after, l, _ := task.Tick(t)
		n.Tasks[place] = after
		told = append(told, l...)
	}
	n.says(told...)
	n.fails()
}

// fails tells of all that fell, also at an earlier tick: what was said of it then may be lost. At the coordinator's node nobody needs to be told.
func (n *node) fails() {
	if n.Node == 0 {
		return
	}
	for epoch := range api.MaxEpochs + 1 {
		if e, ok := fell(n.Tasks, epoch); ok {
			n.says(api.Msg{Kind: api.MsgFail, From: n.Node, To: 0, Epoch: epoch, Err: e})
		}
	}
}
