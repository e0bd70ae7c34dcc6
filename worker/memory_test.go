package worker_test

import (
	"reflect"
	"slices"
	"testing"

	"bowsprit/api"
	"bowsprit/worker"
)

// eachList goes to all lists that a thing has, those within lists too.
func eachList(v reflect.Value, visit func(reflect.Value)) {
	switch v.Kind() {
	case reflect.Struct:
		for k := range v.NumField() {
			eachList(v.Field(k), visit)
		}
	case reflect.Slice:
		for k := range v.Len() {
			eachList(v.Index(k), visit)
		}
		visit(v)
	}
}

// fill changes a thing, whatever is in it; of a list it makes another one.
func fill(v reflect.Value) {
	switch v.Kind() {
	case reflect.Slice:
		other := reflect.MakeSlice(v.Type(), v.Len()+1, v.Len()+1)
		fill(other.Index(v.Len()))
		v.Set(other)
	case reflect.Struct:
		for k := range v.NumField() {
			fill(v.Field(k))
		}
	case reflect.Int, reflect.Int64:
		v.SetInt(v.Int() ^ 0x55)
	case reflect.Uint32, reflect.Uint64:
		v.SetUint(v.Uint() ^ 0x55)
	case reflect.String:
		v.SetString(v.String() + "spoiled")
	case reflect.Bool:
		v.SetBool(!v.Bool())
	}
}

// roomy is a thing with memory of its own: each list has room behind its end, and in that something.
func roomy[T any](x T) T {
	x = copyOf(x)
	eachList(reflect.ValueOf(&x).Elem(), func(v reflect.Value) {
		room := reflect.MakeSlice(v.Type(), v.Len()+3, v.Len()+3)
		reflect.Copy(room, v)
		for k := v.Len(); k < room.Len(); k++ {
			fill(room.Index(k))
		}
		v.Set(room.Slice(0, v.Len()))
	})
	return x
}

// whole is a copy of a thing whose lists have what stands in the room behind their ends, too.
func whole[T any](x T) T {
	var deep func(v reflect.Value)
	deep = func(v reflect.Value) {
		switch v.Kind() {
		case reflect.Struct:
			for k := range v.NumField() {
				deep(v.Field(k))
			}
		case reflect.Slice:
			l := reflect.MakeSlice(v.Type(), v.Cap(), v.Cap())
			reflect.Copy(l, v.Slice(0, v.Cap()))
			for k := range v.Len() {
				deep(l.Index(k))
			}
			v.Set(l)
		}
	}
	deep(reflect.ValueOf(&x).Elem())
	return x
}

// spoil changes all that a thing's lists have, and the room behind them.
func spoil[T any](x T) {
	eachList(reflect.ValueOf(x), func(v reflect.Value) {
		v = v.Slice(0, v.Cap())
		for k := range v.Len() {
			fill(v.Index(k))
		}
	})
}

// ready is a worker all of whose tasks go on at the next tick: to rows, for itself and others, or to an end.
func ready(node int) api.Worker {
	p := func(epoch, number int) place { return place{node, epoch, number} }
	outs := func(limit uint64) (l []api.Out) {
		for to := 1; to <= sites; to++ {
			l = append(l, goes(to, fresh(limit), ""))
		}
		return l
	}
	sums := onAll(api.WayGather, scanU(), filter(on(api.NGt, col(0), num(0))), group([]int{0}, agg(api.AggAll), agg(api.AggSum, col(0))), sortBy(4, down(1)))
	return having(plain(node),
		scans(p(1, 0), onAll(api.WayCast, scanU()), outs(9)...),
		scans(p(1, 1), sums, goes(0, fresh(9), "")),
		taskOf(p(1, 2), onAll(api.WayGather, input(0, ki)), api.TaskGathers, []api.In{comes(0, node, waits(1), ""), comes(0, 3, waits(2), "5")}, []api.Out{goes(0, fresh(0), "")}),
		taskOf(p(2, 4), by(both(api.WayShuffle), 0), api.TaskGathers, came(), outs(9)),
		scans(p(3, 3), onAll(api.WayGather, scanU(), project(bad(0, 3))), goes(0, fresh(9), "")),
		taskOf(p(4, 7), both(api.WayRoot), api.TaskGathers, came(), nil),
	)
}

// kept is what is handed in while its memory is watched: such as may be, and such as may not, with messages that change something, and such as do not.
func kept() (l []given) {
	workers := []api.Worker{full(0), full(2), plain(0), plain(1), ready(0), ready(2), stuffed(), {}, changing(full(1), func(w *api.Worker) { w.Has = 0 })}
	for k, w := range workers {
		msgs := []api.Msg{
			planned(fourWays(), 5, w.Node, sites), planned(small(), 9, w.Node, sites), planned(small(), 3, w.Node, sites), planned(small(), 2, w.Node, sites), planned(noPlans()[0], 5, w.Node, sites),
			dropped(3, w.Node), dropped(5, w.Node), dropped(2, w.Node), data(3, 2, 0, w.Node, 1, rowsOf("5 / 6")), data(3, 0, 3, w.Node, 3, rowsOf("5 / 6")), data(7, 2, 0, w.Node, 1, end(0)),
			ack(3, 2, 1, w.Node, 1, 9), ack(3, 4, 1, w.Node, 3, 9), ack(11, 0, 1, w.Node, 3, 30), failed(3, w.Node, api.ErrOver), {},
		}
		for n, m := range msgs {
			g := given{Worker: w, Other: copyOf(w), Msg: m, Catalog: tables(), Sites: sites, Node: 1 + n%4, Epoch: n, Tables: plain(1).Tables}
			if n%2 == 1 {
				g.Other = workers[(k+1)%len(workers)]
			}
			switch n % 5 {
			case 1:
				g.Tables = wrongTables()[n]
			case 2:
				g.Catalog = wrongCatalogs()[n/5]
			case 3:
				g.Node, g.Tables = 0, nil
			}
			l = append(l, g)
		}
	}
	return l
}

// R3: what is handed in stays as it was, the room behind a list's end too, also when what is answered is spoiled; what is answered is not spoiled with what was handed in.
func TestMemory(t *testing.T) {
	answered := map[string]int{}
	for _, was := range kept() {
		for k, call := range calls() {
			in := roomy(was)
			before := whole(in)
			got := call(in)
			want := copyOf(got)
			spoil(got)
			if !reflect.DeepEqual(whole(in), before) {
				t.Errorf("%v of %v: it is %v", names()[k], was, in)
			}
			got = call(in)
			spoil(in)
			if !same(got, want) {
				t.Errorf("%v of %v: %v, not %v", names()[k], was, got, want)
			}
			if !same(want, answer{Worker: was.Worker}) && want.Err == api.OK {
				answered[names()[k]]++
			}
		}
	}
	for _, name := range append(becoming(), "Rows", "Knows") {
		if answered[name] < 6 {
			t.Error(answered)
		}
	}
}

// R3: no two lists of one answer share memory, those of what is said and of the worker neither; and what stands behind their ends is nobody's.
func TestMemoryWithin(t *testing.T) {
	for _, was := range kept() {
		for k, call := range calls() {
			got, seen := call(was), map[uintptr]bool{}
			eachList(reflect.ValueOf(&got).Elem(), func(v reflect.Value) {
				room := v.Slice(0, v.Cap())
				for at := range room.Len() {
					place := room.Index(at).Addr().Pointer()
					if seen[place] && room.Index(at).Type().Size() > 0 {
						t.Errorf("%v of %v: lists of %v share memory", names()[k], was, got)
					}
					seen[place] = true
				}
			})
			want := call(was)
			eachList(reflect.ValueOf(got), func(v reflect.Value) {
				room := v.Slice(v.Len(), v.Cap())
				for at := range room.Len() {
					fill(room.Index(at))
				}
			})
			if !same(got, want) {
				t.Errorf("%v of %v: %v, not %v", names()[k], was, got, want)
			}
		}
	}
}

// R3, R5: nothing is kept: what is done to an answer, or to what was handed in, or asked in between, reaches no later answer.
func TestNothingIsKept(t *testing.T) {
	all := kept()
	for k, was := range all {
		for m, call := range calls() {
			want := copyOf(call(was))
			in := roomy(was)
			got := call(in)
			spoil(got)
			spoil(in)
			for _, other := range calls() {
				other(all[(k*7+m)%len(all)])
			}
			if again := call(was); !same(again, want) {
				t.Errorf("%v of %v: %v, not %v", names()[m], was, again, want)
			}
		}
	}
}

// R3: nil and empty lists are one, in whatever is handed in.
func TestNilAndEmpty(t *testing.T) {
	for _, g := range kept() {
		empty := copyOf(g)
		eachList(reflect.ValueOf(&empty).Elem(), func(v reflect.Value) {
			if v.Len() == 0 {
				v.Set(reflect.MakeSlice(v.Type(), 0, 2))
			}
		})
		for k, call := range calls() {
			if got, want := call(empty), call(copyOf(g)); !same(got, want) {
				t.Errorf("%v of %v: %v, not %v", names()[k], g, got, want)
			}
		}
	}
}

// R2: beside an error there is nothing; and each call answers what the words say.
func TestNothingBesideAnError(t *testing.T) {
	met := map[string]tally{}
	for _, g := range kept() {
		for _, name := range names() {
			got := asRule(t, name, g)
			if name != "Fell" && got.Err != api.OK && !same(got, answer{Err: got.Err}) {
				t.Errorf("%v of %v: %v", name, g, got)
			}
			if met[name] == nil {
				met[name] = tally{}
			}
			met[name][got.Err]++
		}
	}
	met["New"].metAll(t, api.OK, api.ErrCatalog, api.ErrBase)
	met["Fell"].metAll(t, api.OK, api.ErrOver)
	for _, name := range []string{"Check", "Hear", "Tick"} {
		met[name].metAll(t, api.OK, api.ErrWorker)
	}
	for _, name := range []string{"Same", "Knows", "Rows"} {
		met[name].metAll(t, api.OK)
	}
}

// R3: of several answers of one worker each has its own memory, also if they share all that they had.
func TestAnswersApart(t *testing.T) {
	in := roomy(given{Worker: ready(2)}).Worker
	before := whole(in)
	first, _, e := worker.Tick(in)
	second, _, f := worker.Tick(first)
	third, _, g := worker.Hear(first, planned(fourWays(), 9, 2, sites))
	fourth, _, h := worker.Hear(first, dropped(2, 2))
	fifth, _, i := worker.Hear(first, data(1, 0, 3, 2, 2, batch(4)))
	if slices.ContainsFunc([]api.Errno{e, f, g, h, i}, func(e api.Errno) bool { return e != api.OK }) {
		t.Fatal(e, f, g, h, i)
	}
	all := []*api.Worker{&first, &second, &third, &fourth, &fifth}
	var want []api.Worker
	for k, w := range all {
		want = append(want, copyOf(*w))
		for n := range k {
			if same(want[n], want[k]) {
				t.Error(n, k, short(*w))
			}
		}
	}
	for k, w := range all {
		w.Tasks = append(w.Tasks, api.Task{})
		w.Tables[1] = append(w.Tables[1], list("99")...)
		spoil(*w)
		for n, other := range all {
			if n > k && !same(*other, want[n]) {
				t.Error(k, n, short(*other), short(want[n]))
			}
		}
	}
	if !reflect.DeepEqual(whole(in), before) {
		t.Error(in)
	}
}

// R3: a plan that is handed in, told to several workers, is none of theirs.
func TestPlanIsCopied(t *testing.T) {
	m := roomy(planned(fourWays(), 4, 1, sites))
	before := whole(m)
	w, _, e := worker.Hear(plain(1), m)
	again, _, f := worker.Hear(plain(1), m)
	if e != api.OK || f != api.OK || len(w.Tasks) != 4 || !same(w, again) {
		t.Fatal(e, f, w)
	}
	want := copyOf(w)
	spoil(again)
	if !reflect.DeepEqual(whole(m), before) || !same(w, want) {
		t.Error(m, w)
	}
	spoil(m)
	if !same(w, want) {
		t.Error(w)
	}
}

// R3: rows that are answered are copies, each time anew, and so are a new worker's catalog and tables.
func TestRowsAreCopied(t *testing.T) {
	w := full(3)
	rows, ok := worker.Rows(w, 11)
	if !ok || !same(rows, list("5 / 1 / 5")) {
		t.Fatal(rows, ok)
	}
	spoil(rows)
	if !same(w, full(3)) {
		t.Error(w)
	}
	c, tables := tables(), plain(1).Tables
	x, e := worker.New(c, sites, 1, tables)
	y, f := worker.New(c, sites, 1, tables)
	if e != api.OK || f != api.OK {
		t.Fatal(e, f)
	}
	spoil(c)
	spoil(tables)
	spoil(x)
	if !same(y, plain(1)) {
		t.Error(y)
	}
}

// R3: rows and tasks that stand several times in what is handed in, in the same memory, are several in what is answered.
func TestSharedMemory(t *testing.T) {
	row := list("5")[0]
	x := scans(place{1, 2, 0}, onAll(api.WayGather, scanU()), goes(0, fresh(0), ""))
	w := having(plain(1), x)
	y := x // shares all with the other one
	y.Number = 1
	w.Tasks = []api.Task{x, y}
	w.Tables[1] = []api.Row{row, row, row, row, row}
	got, _, e := worker.Tick(w)
	want := copyOf(got)
	if e != api.OK || len(got.Tasks) != 2 || len(got.Tasks[0].Outs[0].Sender.Queue) != 3 {
		t.Fatal(e, got)
	}
	spoil(got.Tasks[:1:1])
	spoil(got.Tables[1][:1:1])
	if !same(got.Tasks[1], want.Tasks[1]) || !same(got.Tables[1][1:], want.Tables[1][1:]) || !same(row, list("5")[0]) {
		t.Error(got, want)
	}
}
