package task_test

import (
	"reflect"
	"slices"
	"testing"

	"bowsprit/api"
	"bowsprit/task"
)

// eachList goes to all lists that a thing has, those within lists too.
func eachList(v reflect.Value, visit func(reflect.Value)) {
	switch v.Kind() {
	case reflect.Struct:
		for k := range v.NumField() {
			eachList(v.Field(k), visit)
		}
	case reflect.Slice:
		for k := range v.Len() {
			eachList(v.Index(k), visit)
		}
		visit(v)
	}
}

// fill changes a thing, whatever is in it; of a list it makes another one.
func fill(v reflect.Value) {
	switch v.Kind() {
	case reflect.Slice:
		other := reflect.MakeSlice(v.Type(), v.Len()+1, v.Len()+1)
		fill(other.Index(v.Len()))
		v.Set(other)
	case reflect.Struct:
		for k := range v.NumField() {
			fill(v.Field(k))
		}
	case reflect.Int, reflect.Int64:
		v.SetInt(v.Int() ^ 0x55)
	case reflect.Uint32, reflect.Uint64:
		v.SetUint(v.Uint() ^ 0x55)
	case reflect.String:
		v.SetString(v.String() + "spoiled")
	case reflect.Bool:
		v.SetBool(!v.Bool())
	}
}

// roomy is a thing with memory of its own: each list has room behind its end, and in that something.
func roomy[T any](x T) T {
	x = copyOf(x)
	eachList(reflect.ValueOf(&x).Elem(), func(v reflect.Value) {
		room := reflect.MakeSlice(v.Type(), v.Len()+3, v.Len()+3)
		reflect.Copy(room, v)
		for k := v.Len(); k < room.Len(); k++ {
			fill(room.Index(k))
		}
		v.Set(room.Slice(0, v.Len()))
	})
	return x
}

// whole is a copy of a thing whose lists have what stands in the room behind their ends, too.
func whole[T any](x T) T {
	var deep func(v reflect.Value)
	deep = func(v reflect.Value) {
		switch v.Kind() {
		case reflect.Struct:
			for k := range v.NumField() {
				deep(v.Field(k))
			}
		case reflect.Slice:
			l := reflect.MakeSlice(v.Type(), v.Cap(), v.Cap())
			reflect.Copy(l, v.Slice(0, v.Cap()))
			for k := range v.Len() {
				deep(l.Index(k))
			}
			v.Set(l)
		}
	}
	deep(reflect.ValueOf(&x).Elem())
	return x
}

// spoil changes all that a thing's lists have, and the room behind them.
func spoil[T any](x T) {
	eachList(reflect.ValueOf(x), func(v reflect.Value) {
		v = v.Slice(0, v.Cap())
		for k := range v.Len() {
			fill(v.Index(k))
		}
	})
}

// kept is what is handed in while its memory is watched: such as may be, and such as may not, with messages that change something, and such as do not.
func kept() (l []given) {
	rows := list("1 / 1 / 2 / 5")
	tasks := append(inStates(),
		ready(both(api.WayCast), opened()...), ready(both(api.WayShuffle, 0), opened()...), ready(both(api.WayGather), goes(0, fresh(9), ""), goes(1, fresh(9), "")), ready(both(api.WayRoot)), ready(both(0), opened()...),
		withIn(ready(both(api.WayCast), goes(0, fresh(9), ""), goes(1, fresh(9), ""), goes(4, fresh(9), "")), 1, api.In{Frag: 0, From: 3, Receiver: over(12), Rows: counted(45)}),
		taskOf(onAll(api.WayGather, scan(0, ki), filter(on(api.NGt, col(0), num(0))), group([]int{0}, agg(api.AggAll), agg(api.AggSum, col(0))), sortBy(4, down(1))), api.TaskGathers, nil, []api.Out{goes(0, fresh(9), "")}),
		sending(holds(3, 4), counted(70)), sending(changing(holds(3, 8), func(s *api.Sender) { s.Sent = 10 }), counted(9)), sending(changing(ended(5, 0), func(s *api.Sender) { s.Sent = 5 }), nil), stuffed(), api.Task{}, changing(sends(), func(x *api.Task) { x.Rows = rows }),
	)
	msgs := append(eachKind(),
		data(2, 0, 1, rowsOf("5 / 6")), data(0, 3, 3, rowsOf("5 / 6")), data(0, 3, 4, rowsOf("5 / 6")), data(2, 0, 1, end(0)), data(0, 3, 8, end(7)), ack(1, 1, 9), ack(4, 3, 9), ack(1, 11, 9), ack(1, 6, 9), ack(1, 4, 30), data(9, 9, 9, batch(1)), api.Msg{},
	)
	plans := append(whatever(), fourWays(), fourWays(), api.Plan{})
	for k, x := range tasks {
		for n, m := range msgs {
			g := given{Task: x, Other: copyOf(x), Msg: m, Tables: [][]api.Row{rows, list("5 'a' / NULL")}, Plan: plans[(k*5+n)%len(plans)], Epoch: 1 + n, Sites: 1 + k%3, Number: n % 4, Node: (k + n) % 2}
			if n%2 == 1 {
				g.Other, g.Tables = tasks[(k+1)%len(tasks)], nil
			}
			l = append(l, g)
		}
	}
	return l
}

// R3: what is handed in stays as it was, the room behind a list's end too, also when what is answered is spoiled; what is answered is not spoiled with what was handed in.
func TestMemory(t *testing.T) {
	answered := map[string]int{}
	for _, was := range kept() {
		for k, call := range calls() {
			in := roomy(was)
			before := whole(in)
			got := call(in)
			want := copyOf(got)
			spoil(got)
			if !reflect.DeepEqual(whole(in), before) {
				t.Errorf("%v of %v: it is %v", names()[k], was, in)
			}
			got = call(in)
			spoil(in)
			if !same(got, want) {
				t.Errorf("%v of %v: %v, not %v", names()[k], was, got, want)
			}
			if want.Err == api.OK && !same(want.Task, was.Task) {
				answered[names()[k]]++
			}
		}
	}
	for _, name := range names()[2:] {
		if answered[name] < 20 {
			t.Error(answered)
		}
	}
}

// R3: no two lists of one answer share memory, those of what is said and of the task neither; and what stands behind their ends is nobody's.
func TestMemoryWithin(t *testing.T) {
	for _, was := range kept() {
		for k, call := range calls() {
			got, seen := call(was), map[uintptr]bool{}
			eachList(reflect.ValueOf(&got).Elem(), func(v reflect.Value) {
				room := v.Slice(0, v.Cap())
				for at := range room.Len() {
					place := room.Index(at).Addr().Pointer()
					if seen[place] {
						t.Errorf("%v of %v: lists of %v share memory", names()[k], was, got)
					}
					seen[place] = true
				}
			})
			want := call(was)
			eachList(reflect.ValueOf(got), func(v reflect.Value) {
				room := v.Slice(v.Len(), v.Cap())
				for at := range room.Len() {
					fill(room.Index(at))
				}
			})
			if !same(got, want) {
				t.Errorf("%v of %v: %v, not %v", names()[k], was, got, want)
			}
		}
	}
}

// R3, R5: nothing is kept: what is done to an answer, or to what was handed in, or asked in between, reaches no later answer.
func TestNothingIsKept(t *testing.T) {
	all := kept()
	for k, was := range all {
		for m, call := range calls() {
			want := copyOf(call(was))
			in := roomy(was)
			got := call(in)
			spoil(got)
			spoil(in)
			for _, other := range calls() {
				other(all[(k*7+m)%len(all)])
			}
			if again := call(was); !same(again, want) {
				t.Errorf("%v of %v: %v, not %v", names()[m], was, again, want)
			}
		}
	}
}

// R3: nil and empty lists are one, in whatever is handed in.
func TestNilAndEmpty(t *testing.T) {
	for _, g := range kept() {
		empty := copyOf(g)
		eachList(reflect.ValueOf(&empty).Elem(), func(v reflect.Value) {
			if v.Len() == 0 {
				v.Set(reflect.MakeSlice(v.Type(), 0, 2))
			}
		})
		for k, call := range calls() {
			if got, want := call(empty), call(copyOf(g)); !same(got, want) {
				t.Errorf("%v of %v: %v, not %v", names()[k], g, got, want)
			}
		}
	}
}

// R2: beside an error there is nothing; and each call answers what the words say.
func TestNothingBesideAnError(t *testing.T) {
	met := tally{}
	for _, g := range kept() {
		for _, name := range names() {
			got := asRule(t, name, g)
			if got.Err != api.OK && !same(got, answer{Err: got.Err}) {
				t.Errorf("%v of %v: %v", name, g, got)
			}
			met[got.Err]++
		}
	}
	met.metAll(t, api.OK, api.ErrTask, api.ErrArg)
}

// R3: of several answers of one task each has its own memory.
func TestAnswersApart(t *testing.T) {
	in := roomy(given{Task: sending(changing(holds(3, 8), func(s *api.Sender) { s.Sent = 10 }), counted(40))}).Task
	before := whole(in)
	first, e := task.Hear(in, ack(1, 6, 30))
	second, f := task.Hear(in, ack(1, 9, 30))
	third, g := task.Go(in, nil)
	fourth, msgs, h := task.Tick(in)
	if e != api.OK || f != api.OK || g != api.OK || h != api.OK || len(first.Outs[0].Rest) != 28 || len(second.Outs[0].Rest) != 16 {
		t.Error(e, f, g, h, first, second)
	}
	all := []*api.Task{&first, &second, &third, &fourth}
	var want []api.Task
	for _, x := range all {
		want = append(want, copyOf(*x))
	}
	wantMsgs := copyOf(msgs)
	for k, x := range all {
		x.Outs[0].Rest = append(x.Outs[0].Rest, list("99")...)
		x.Outs[0].Sender.Queue = append(x.Outs[0].Sender.Queue, end(99))
		spoil(*x)
		for n, other := range all {
			if n > k && !same(*other, want[n]) {
				t.Error(k, n, *other, want[n])
			}
		}
	}
	if !same(msgs, wantMsgs) || !reflect.DeepEqual(whole(in), before) {
		t.Error(msgs, in)
	}
}

// R3: rows that stand several times in what is handed in, in the same memory, are several rows in what is answered.
func TestSharedRows(t *testing.T) {
	row := list("5")[0]
	x := sending(fresh(3), slices.Repeat([]api.Row{row}, 6))
	for k := range x.Outs[0].Rest {
		x.Outs[0].Rest[k] = row // no copy
	}
	x.Ins[0].Rows = []api.Row{row, row}
	got, e := task.Go(x, nil)
	if e != api.OK {
		t.Fatal(e)
	}
	spoil(got.Outs[0].Sender.Queue[0].Rows[:1])
	want, _ := task.Go(x, nil)
	if !same(got.Ins, want.Ins) || !same(got.Outs[0].Sender.Queue[1:], want.Outs[0].Sender.Queue[1:]) || !same(row, list("5")[0]) {
		t.Error(got, want)
	}
}
