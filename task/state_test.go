package task_test

import (
	"math"
	"slices"
	"testing"

	"bowsprit/api"
)

// anywhere is a deed, and in which states a task may be behind it; it is done to each of the task's streams that go out, one by one, if it is one of a stream.
type anywhere struct {
	may []int
	do  func(x *api.Task)
	out func(x *api.Out)
}

// states are tasks in each state that have streams; the one that sends has so much to send that this is one stream's as well as all others'.
func states() []api.Task {
	x := sends()
	for k := range x.Outs {
		x.Outs[k].Sender, x.Outs[k].Rest = ended(7, 2), list("1 / 2")
	}
	return []api.Task{gathers(), x, done(), fell()}
}

// words are the words of the table of states, each broken alone, or not.
func words() []anywhere {
	first, sending, finished, fallen := api.TaskGathers, api.TaskSends, api.TaskDone, api.TaskFell
	s := func(do func(s *api.Sender)) func(x *api.Out) {
		return func(x *api.Out) { do(&x.Sender) }
	}
	l := []anywhere{
		{out: func(x *api.Out) { x.Rest = list("7") }, may: []int{sending}},
		{out: func(x *api.Out) { x.Rest = []api.Row{{}} }, may: []int{sending}},
		{out: s(func(s *api.Sender) { *s = holds(1, 1) }), may: []int{sending}},
		{out: s(func(s *api.Sender) { *s = ended(1, 0) }), may: []int{sending}},
		{out: s(func(s *api.Sender) { *s = holds(2, 0) }), may: []int{sending}},
		{out: s(func(s *api.Sender) { *s = changing(ended(4, 0), func(s *api.Sender) { s.Sent, s.Timer = 4, 2 }) }), may: []int{sending}},
		{out: s(func(s *api.Sender) { *s = fresh(9); s.Ended = true }), may: []int{sending, finished}},
		{out: s(func(s *api.Sender) { *s = acknowledged(0) }), may: []int{sending, finished}},
		{out: s(func(s *api.Sender) { *s = holds(api.MaxSeq, 0); s.Ended = true }), may: []int{sending, finished}},
		{out: s(func(s *api.Sender) { *s = fresh(0) }), may: []int{first, sending, fallen}},
		{out: s(func(s *api.Sender) { *s = fresh(api.MaxSeq) }), may: []int{first, sending, fallen}},
		{out: s(func(s *api.Sender) { s.Limit = api.MaxSeq }), may: []int{first, sending, finished, fallen}},
		{out: s(func(s *api.Sender) { s.Ended = false }), may: []int{first, fallen}}, // the one that sends has an End
		{do: func(x *api.Task) { x.Rows = list("1") }},
		{do: func(x *api.Task) { x.Rows = []api.Row{{}} }},
		{do: func(x *api.Task) { x.Rows, x.Frag.Way = list("1"), api.WayRoot }, may: []int{sending, finished}},
		{do: func(x *api.Task) { x.Frag.Way = api.WayRoot }, may: []int{first, sending, finished, fallen}},
		{do: func(x *api.Task) { x.Rows, x.Frag.Way = list("1"), 5 }},
		{do: func(x *api.Task) { x.Rows, x.Frag.Way = list("1"), 0 }},
		{do: func(x *api.Task) { x.Rows, x.Frag.Way = list("1"), api.WayGather }},
		{do: func(x *api.Task) { x.Err = api.OK }, may: []int{first, sending, finished}},
		{do: func(x *api.Task) { x.Err = api.ErrFault }, may: []int{fallen}},
		{do: func(x *api.Task) { x.Err = api.ErrOver }, may: []int{fallen}},
	}
	for _, e := range []api.Errno{api.ErrArg, api.ErrNil, api.ErrTask, api.ErrFrag, -1, api.ErrFault - 1, api.ErrFault + 1, api.ErrOver + 1, math.MaxInt, math.MinInt, 1<<32 + api.ErrFault, 1 << 32} {
		l = append(l, anywhere{do: func(x *api.Task) { x.Err = e }})
	}
	return l
}

// P25.1: each word of the table of states, broken alone, in each state, at each stream.
func TestWordsOfStates(t *testing.T) {
	for _, x := range states() {
		isTask(t, true, x)
		for _, w := range words() {
			may := slices.Contains(w.may, x.State)
			if w.do != nil {
				isTask(t, may, changing(x, w.do))
				continue
			}
			for k := range x.Outs {
				isTask(t, may, changing(x, func(x *api.Task) { w.out(&x.Outs[k]) }))
			}
		}
	}
}

// P25.1: a task sends, if just one thing of one of its streams is left; else it is done, and just then.
func TestLastThingToSend(t *testing.T) {
	left := []func(x *api.Out){
		func(x *api.Out) {},
		func(x *api.Out) { x.Rest = list("7") },
		func(x *api.Out) { x.Sender.Ended = false },
		func(x *api.Out) { x.Sender = ended(4, 0) },
		func(x *api.Out) { x.Sender = holds(4, 1); x.Sender.Ended = true },
	}
	for _, base := range []api.Task{done(), rooted(api.TaskDone, goes(0, acknowledged(0), ""), goes(4, acknowledged(7), ""))} {
		for place := range base.Outs {
			for k, do := range left {
				for state := api.TaskGathers; state <= api.TaskFell; state++ {
					want := state == api.TaskSends && k > 0 || state == api.TaskDone && k == 0
					isTask(t, want, changing(base, func(x *api.Task) {
						x.State = state
						do(&x.Outs[place])
					}))
				}
			}
		}
	}
}

// P25.1: a task without streams that go out never sends; nor does one fall, or gather, with Rows.
func TestNothingToSend(t *testing.T) {
	for _, ins := range [][]api.In{nil, came()} {
		for state := range 6 {
			for _, rows := range []string{"", "1"} {
				for _, way := range []int{api.WayRoot, api.WayGather} {
					for _, e := range []api.Errno{api.OK, api.ErrFault, api.ErrOver} {
						x := taskOf(both(way), state, ins, nil)
						x.Rows, x.Err = list(rows), e
						want := state == api.TaskGathers && rows == "" && e == api.OK || state == api.TaskDone && (rows == "" || way == api.WayRoot) && e == api.OK || state == api.TaskFell && rows == "" && e != api.OK
						isTask(t, want, x)
					}
				}
			}
		}
	}
}
