package worker_test

import (
	"reflect"
	"slices"
	"testing"

	"bowsprit/api"
	"bowsprit/frame"
	"bowsprit/worker"
)

// shape gives a thing memory of its own; empty lists are nil there.
func shape(v reflect.Value) {
	switch v.Kind() {
	case reflect.Struct:
		for k := range v.NumField() {
			shape(v.Field(k))
		}
	case reflect.Slice:
		if v.Len() == 0 {
			v.SetZero()
			return
		}
		l := reflect.MakeSlice(v.Type(), v.Len(), v.Len())
		reflect.Copy(l, v)
		v.Set(l)
		for k := range v.Len() {
			shape(v.Index(k))
		}
	}
}

// copyOf is a thing with memory of its own.
func copyOf[T any](x T) T {
	shape(reflect.ValueOf(&x).Elem())
	return x
}

// same holds things against one another without the program.
func same[T any](a, b T) bool {
	return reflect.DeepEqual(a, b) || reflect.DeepEqual(copyOf(a), copyOf(b)) // the first is much less work, and mostly enough
}

// changing is a thing of which one thing is another.
func changing[T any](x T, change func(*T)) T {
	x = copyOf(x)
	change(&x)
	return x
}

// given is what calls are handed.
type given struct {
	Worker, Other      api.Worker
	Msg                api.Msg
	Catalog            api.Catalog
	Sites, Node, Epoch int
	Tables             [][]api.Row
}

// answer is what a call answers, as far as it has it.
type answer struct {
	Worker api.Worker
	Msgs   []api.Msg
	Rows   []api.Row
	Knows  int
	Is     bool
	Err    api.Errno
}

// names are what the calls are called, in their order.
func names() []string {
	return []string{"Check", "Same", "New", "Hear", "Tick", "Knows", "Rows", "Fell"}
}

// becoming are those that answer what becomes of a worker.
func becoming() []string {
	return []string{"New", "Hear", "Tick"}
}

// calls are all calls.
func calls() []func(g given) answer {
	return []func(g given) answer{
		func(g given) answer { return answer{Err: worker.Check(g.Worker)} },
		func(g given) answer { return answer{Is: worker.Same(g.Worker, g.Other)} },
		func(g given) answer {
			w, e := worker.New(g.Catalog, g.Sites, g.Node, g.Tables)
			return answer{Worker: w, Err: e}
		},
		func(g given) answer {
			w, l, e := worker.Hear(g.Worker, g.Msg)
			return answer{Worker: w, Msgs: l, Err: e}
		},
		func(g given) answer {
			w, l, e := worker.Tick(g.Worker)
			return answer{Worker: w, Msgs: l, Err: e}
		},
		func(g given) answer { return answer{Knows: worker.Knows(g.Worker, g.Epoch)} },
		func(g given) answer {
			rows, is := worker.Rows(g.Worker, g.Epoch)
			return answer{Rows: rows, Is: is}
		},
		func(g given) answer {
			e, is := worker.Fell(g.Worker, g.Epoch)
			return answer{Err: e, Is: is}
		},
	}
}

// brief is a task, or a worker, without its fragments' nodes and without most of its rows, to be told of.
func brief(x api.Task) api.Task {
	x = copyOf(x)
	x.Frag.Nodes, x.Rows = nil, x.Rows[:min(len(x.Rows), 10)]
	for k := range x.Ins {
		x.Ins[k].Rows = x.Ins[k].Rows[:min(len(x.Ins[k].Rows), 10)]
	}
	for k := range x.Outs {
		x.Outs[k].Rest = x.Outs[k].Rest[:min(len(x.Outs[k].Rest), 10)]
	}
	return x
}

func short(w api.Worker) api.Worker {
	w = copyOf(w)
	for k := range w.Tasks {
		w.Tasks[k] = brief(w.Tasks[k])
	}
	return w
}

// asRule holds what a call answers against what it is to answer by rule, and tells that: what comes of it may be.
func asRule(t *testing.T, name string, g given) answer {
	t.Helper()
	k := slices.Index(names(), name)
	got, want := calls()[k](g), rules()[k](g)
	if !same(got, want) {
		got.Worker, want.Worker, g.Worker, g.Other = short(got.Worker), short(want.Worker), short(g.Worker), short(g.Other)
		t.Errorf("%s of %v: %v, by rule %v", name, g, got, want)
	}
	if slices.Contains(becoming(), name) && got.Err == api.OK {
		mayBe(t, got.Worker, got.Msgs...)
	}
	return got
}

// mayBe holds that a worker may be, and that messages may, which are from it to others.
func mayBe(t *testing.T, w api.Worker, l ...api.Msg) {
	t.Helper()
	if checkByRule(w) != api.OK || worker.Check(w) != api.OK {
		t.Errorf("%v may not be", short(w))
	}
	for _, m := range l {
		if e := frame.Check(m); e != api.OK || m.From != w.Node || m.To == w.Node {
			t.Errorf("%v of %v may not be: %v", m, short(w), e)
		}
	}
}

// isWorker holds whether a worker may be.
func isWorker(t *testing.T, want bool, w api.Worker) {
	t.Helper()
	got := asRule(t, "Check", given{Worker: w})
	if got.Err != map[bool]api.Errno{true: api.OK, false: api.ErrWorker}[want] {
		t.Errorf("Check(%v): %v, not %v", short(w), got.Err, want)
	}
}

// becomes holds what a call makes of a worker, and what it says, and tells what the worker is then.
func becomes(t *testing.T, name string, g given, want api.Worker, said ...api.Msg) api.Worker {
	t.Helper()
	got := asRule(t, name, g)
	if got.Err != api.OK || !same(got.Worker, want) || !same(got.Msgs, said) {
		t.Errorf("%s of %v, %v: %v, %v, %v, not %v, %v", name, short(g.Worker), g.Msg, short(got.Worker), got.Msgs, got.Err, short(want), said)
	}
	return got.Worker
}

// hears and ticks hold what becomes of a worker.
func hears(t *testing.T, w api.Worker, m api.Msg, want api.Worker, said ...api.Msg) api.Worker {
	t.Helper()
	return becomes(t, "Hear", given{Worker: w, Msg: m}, want, said...)
}

func ticks(t *testing.T, w, want api.Worker, said ...api.Msg) api.Worker {
	t.Helper()
	return becomes(t, "Tick", given{Worker: w}, want, said...)
}

// deaf holds that messages change nothing, and that nothing is said to them.
func deaf(t *testing.T, w api.Worker, msgs ...api.Msg) {
	t.Helper()
	for _, m := range msgs {
		hears(t, w, m, w)
	}
}

// knows holds what a worker knows of an epoch: whether it has it (1), or was told to drop it (2).
func knows(t *testing.T, w api.Worker, epoch, want int) {
	t.Helper()
	if got := asRule(t, "Knows", given{Worker: w, Epoch: epoch}); got.Knows != want {
		t.Errorf("%v knows %v of %v, not %v", short(w), got.Knows, epoch, want)
	}
}

// hasRows and hasNone hold whether a worker has the rows of an epoch.
func hasRows(t *testing.T, w api.Worker, epoch int, want []api.Row) {
	t.Helper()
	if got := asRule(t, "Rows", given{Worker: w, Epoch: epoch}); !got.Is || !same(got.Rows, want) {
		t.Errorf("%v has of %v the rows %v, %v, not %v", short(w), epoch, got.Rows, got.Is, want)
	}
}

func hasNone(t *testing.T, w api.Worker, epoch int) {
	t.Helper()
	if got := asRule(t, "Rows", given{Worker: w, Epoch: epoch}); !same(got, answer{}) {
		t.Errorf("%v has of %v the rows %v, %v", short(w), epoch, got.Rows, got.Is)
	}
}

// isFallen holds why a task of an epoch fell, isUp that none did.
func isFallen(t *testing.T, w api.Worker, epoch int, want api.Errno) {
	t.Helper()
	if got := asRule(t, "Fell", given{Worker: w, Epoch: epoch}); !same(got, answer{Err: want, Is: true}) {
		t.Errorf("of %v the epoch %v fell by %v, %v, not %v", short(w), epoch, got.Err, got.Is, want)
	}
}

func isUp(t *testing.T, w api.Worker, epoch int) {
	t.Helper()
	if got := asRule(t, "Fell", given{Worker: w, Epoch: epoch}); !same(got, answer{}) {
		t.Errorf("of %v the epoch %v fell by %v, %v", short(w), epoch, got.Err, got.Is)
	}
}

// tally counts what calls answered.
type tally map[api.Errno]int

// metAll holds that each of these was answered, and nothing else.
func (l tally) metAll(t *testing.T, want ...api.Errno) {
	t.Helper()
	for _, e := range want {
		if l[e] == 0 {
			t.Error(e, "was never met:", l)
		}
	}
	if len(l) != len(want) {
		t.Error(l, want)
	}
}
