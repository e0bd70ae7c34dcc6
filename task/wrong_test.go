package task_test

import (
	"math"
	"math/rand"
	"reflect"
	"slices"
	"testing"

	"bowsprit/api"
)

// noTasks are tasks that may not be, each for another reason.
func noTasks() []api.Task {
	l := []api.Task{{}, stuffed(), streamless(api.TaskSends), changing(rooted(api.TaskDone), func(x *api.Task) { x.Rows = append(x.Rows, wrongRows()[0]) })}
	deeds := []func(x *api.Task){
		func(x *api.Task) { x.Epoch = 0 }, func(x *api.Task) { x.Epoch++ }, func(x *api.Task) { x.Sites = 2 }, func(x *api.Task) { x.Sites = api.MaxSites + 1 }, func(x *api.Task) { x.Number = -1 }, func(x *api.Task) { x.Number = api.MaxFrags },
		func(x *api.Task) { x.Node = -1 }, func(x *api.Task) { x.Node = x.Sites + 1 }, func(x *api.Task) { x.Frag.Nodes = nil }, func(x *api.Task) { x.Frag.Nodes[2].A = 1 }, func(x *api.Task) { x.State = 0 }, func(x *api.Task) { x.State = 5 },
		func(x *api.Task) { x.Ins[0], x.Ins[1] = x.Ins[1], x.Ins[0] }, func(x *api.Task) { x.Ins = append(x.Ins, x.Ins[2]) }, func(x *api.Task) { x.Ins[2].Frag = api.MaxFrags }, func(x *api.Task) { x.Ins[1].From = 9 }, func(x *api.Task) { x.Ins[1].From = -1 },
		func(x *api.Task) { x.Ins[1].Receiver.Session = 4 }, func(x *api.Task) { x.Ins[1].Receiver.Room = 7 }, func(x *api.Task) { x.Ins[1].Receiver.Next = 0 }, func(x *api.Task) { x.Ins[0].Rows = ones(api.MaxList + 1) }, func(x *api.Task) { x.Ins[0].Rows = wrongRows()[1:2] },
		func(x *api.Task) { x.Outs[0], x.Outs[1] = x.Outs[1], x.Outs[0] }, func(x *api.Task) { x.Outs[1].To = x.Outs[0].To }, func(x *api.Task) { x.Outs[2].To = 9 }, func(x *api.Task) { x.Outs[0].To = -1 }, func(x *api.Task) { x.Outs[1].Sender.Session = 4 },
		func(x *api.Task) { x.Outs[1].Sender.Base = 0 }, func(x *api.Task) { x.Outs[0].Rest = wrongRows()[2:3] }, func(x *api.Task) { x.Outs[0].Rest = ones(api.MaxList + 1) }, func(x *api.Task) { x.Rows = list("1") }, func(x *api.Task) { x.Err = api.ErrArg },
	}
	for _, x := range states() {
		for _, do := range deeds {
			l = append(l, changing(x, do))
		}
	}
	return l
}

// P25.3 to P25.5: ErrTask goes ahead of all else, whatever stands beside it: messages that may be and that may not, to it and to others, tables with which nothing can run.
func TestErrTaskAheadOfAll(t *testing.T) {
	msgs := append(eachKind(), data(2, 0, 1, batch(1)), data(0, 3, 3, batch(3)), ack(1, 3, 9), ack(2, 7, 9), api.Msg{}, data(2, 0, 0, batch(1)), told(api.MsgData, 0, 3, 2, dataOf(1, batch(1))), changing(ack(1, 3, 9), func(m *api.Msg) { m.Epoch = 4 }))
	tables := [][][]api.Row{nil, {list("1")}, {wrongRows()}, {ones(3), list("'a'")}}
	for _, x := range noTasks() {
		isTask(t, false, x)
		refused := func(got answer) {
			t.Helper()
			if !same(got, answer{Err: api.ErrTask}) {
				t.Errorf("%v: %v, not ErrTask", short(x), got)
			}
		}
		for _, m := range msgs {
			refused(asRule(t, "Hear", given{Task: x, Msg: m}))
		}
		for _, l := range tables {
			refused(asRule(t, "Go", given{Task: x, Tables: l}))
		}
		refused(asRule(t, "Tick", given{Task: x}))
		isSame(t, true, x, copyOf(x))
	}
}

// strew changes a thing here and there by chance.
func strew(chance *rand.Rand, v reflect.Value) {
	odd := []uint64{0, 1, 2, 3, 4, 5, 7, 8, 9, 12, 13, 29, 30, api.MaxSeq - 1, api.MaxSeq, api.MaxSeq + 1, math.MaxInt64, 1 << 63, math.MaxUint64}
	n := odd[chance.Intn(len(odd))]
	here := chance.Intn(90) == 0
	switch v.Kind() {
	case reflect.Struct:
		for k := range v.NumField() {
			strew(chance, v.Field(k))
		}
	case reflect.Slice:
		for k := range v.Len() {
			strew(chance, v.Index(k))
		}
		switch {
		case here && v.Len() > 0 && chance.Intn(2) == 0:
			v.Set(reflect.AppendSlice(v, v.Slice(0, 1+chance.Intn(v.Len()))))
		case here && v.Len() > 0:
			v.SetLen(chance.Intn(v.Len()))
		case here:
			v.Set(reflect.MakeSlice(v.Type(), 1+chance.Intn(3), 4))
		}
	case reflect.Bool:
		v.SetBool(v.Bool() != here)
	case reflect.String:
	default:
		switch {
		case !here:
		case v.CanInt() && chance.Intn(2) == 0:
			v.SetInt(v.Int() + int64(n%3) - 1)
		case v.CanInt():
			v.SetInt(int64(n))
		case chance.Intn(2) == 0:
			v.SetUint(v.Uint() + n%3 - 1)
		default:
			v.SetUint(n)
		}
	}
}

// R1, R2: whatever is handed in, each call ends, and answers what it is to by rule; beside an error there is nothing.
func TestWhatever(t *testing.T) {
	m := newMaker(256)
	met, changed := map[string]tally{}, 0
	all := kept()
	for range 2500 {
		g := given{Task: m.task(), Tables: m.base().Tables, Plan: all[m.Intn(len(all))].Plan, Epoch: 1 + m.Intn(3), Sites: 1 + m.Intn(3), Number: m.Intn(3), Node: m.Intn(3)}
		g.Other = g.Task
		g.Msg = data(2*m.Intn(2), m.Intn(4), 1+uint64(m.Intn(8)), batch(7))
		if m.Intn(2) == 0 {
			g.Msg = ack(m.Intn(5), 1+uint64(m.Intn(12)), 12)
		}
		g.Msg.To = g.Task.Node
		g = copyOf(g)
		strew(m.Rand, reflect.ValueOf(&g).Elem())
		for _, name := range names() {
			got := asRule(t, name, g)
			if met[name] == nil {
				met[name] = tally{}
			}
			met[name][got.Err]++
			if got.Err != api.OK && !same(got, answer{Err: got.Err}) {
				t.Errorf("%v of %v: %v", name, g, got)
			}
			if slices.Contains(names()[3:], name) && got.Err == api.OK && !same(got.Task, g.Task) {
				changed++
			}
		}
	}
	met["Same"].metAll(t, api.OK)
	met["Begin"].metAll(t, api.OK, api.ErrArg)
	for _, name := range slices.Concat(names()[:1], names()[3:]) {
		met[name].metAll(t, api.OK, api.ErrTask)
		if met[name][api.OK] < 500 || met[name][api.ErrTask] < 500 {
			t.Error(name, met[name])
		}
	}
	if changed < 250 {
		t.Error(changed)
	}
}
