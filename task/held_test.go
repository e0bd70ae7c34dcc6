package task_test

import (
	"reflect"
	"slices"
	"testing"

	"bowsprit/api"
	"bowsprit/frame"
	"bowsprit/task"
)

// shape gives a thing memory of its own; empty lists are nil there.
func shape(v reflect.Value) {
	switch v.Kind() {
	case reflect.Struct:
		for k := range v.NumField() {
			shape(v.Field(k))
		}
	case reflect.Slice:
		if v.Len() == 0 {
			v.SetZero()
			return
		}
		l := reflect.MakeSlice(v.Type(), v.Len(), v.Len())
		reflect.Copy(l, v)
		v.Set(l)
		for k := range v.Len() {
			shape(v.Index(k))
		}
	}
}

// copyOf is a thing with memory of its own.
func copyOf[T any](x T) T {
	shape(reflect.ValueOf(&x).Elem())
	return x
}

// same holds things against one another without the program.
func same[T any](a, b T) bool {
	return reflect.DeepEqual(a, b) || reflect.DeepEqual(copyOf(a), copyOf(b)) // the first is much less work, and mostly enough
}

// changing is a thing of which one thing is another.
func changing[T any](x T, change func(*T)) T {
	x = copyOf(x)
	change(&x)
	return x
}

// given is what calls are handed.
type given struct {
	Task, Other                api.Task
	Msg                        api.Msg
	Tables                     [][]api.Row
	Plan                       api.Plan
	Epoch, Sites, Number, Node int
}

// answer is what a call answers, as far as it has it.
type answer struct {
	Task api.Task
	Msgs []api.Msg
	Is   bool
	Err  api.Errno
}

// names are what the calls are called, in their order; those from the third one on answer what becomes of a task.
func names() []string {
	return []string{"Check", "Same", "Begin", "Hear", "Go", "Tick"}
}

// calls are all calls.
func calls() []func(g given) answer {
	return []func(g given) answer{
		func(g given) answer { return answer{Err: task.Check(g.Task)} },
		func(g given) answer { return answer{Is: task.Same(g.Task, g.Other)} },
		func(g given) answer {
			t, e := task.Begin(g.Plan, g.Epoch, g.Sites, g.Number, g.Node)
			return answer{Task: t, Err: e}
		},
		func(g given) answer {
			t, e := task.Hear(g.Task, g.Msg)
			return answer{Task: t, Err: e}
		},
		func(g given) answer {
			t, e := task.Go(g.Task, g.Tables)
			return answer{Task: t, Err: e}
		},
		func(g given) answer {
			t, l, e := task.Tick(g.Task)
			return answer{Task: t, Msgs: l, Err: e}
		},
	}
}

// short is a task of whose lists just the beginnings are left, to be told of.
func short(t api.Task) api.Task {
	t = copyOf(t)
	t.Rows = t.Rows[:min(len(t.Rows), 10)]
	for k := range t.Ins {
		t.Ins[k].Rows = t.Ins[k].Rows[:min(len(t.Ins[k].Rows), 10)]
	}
	for k := range t.Outs {
		t.Outs[k].Rest = t.Outs[k].Rest[:min(len(t.Outs[k].Rest), 10)]
	}
	return t
}

// asRule holds what a call answers against what it is to answer by rule, and tells that: what comes of it may be.
func asRule(t *testing.T, name string, g given) answer {
	t.Helper()
	k := slices.Index(names(), name)
	got, want := calls()[k](g), rules()[k](g)
	if !same(got, want) {
		got.Task, want.Task, g.Task, g.Other, g.Tables = short(got.Task), short(want.Task), short(g.Task), short(g.Other), nil
		t.Errorf("%s of %v: %v, by rule %v", name, g, got, want)
	}
	if k >= 2 && got.Err == api.OK {
		mayBe(t, got.Task, got.Msgs...)
	}
	return got
}

// mayBe holds that a task may be, and that messages may.
func mayBe(t *testing.T, x api.Task, l ...api.Msg) {
	t.Helper()
	if checkByRule(x) != api.OK || task.Check(x) != api.OK {
		t.Errorf("%v may not be", short(x))
	}
	for _, m := range l {
		if e := frame.Check(m); e != api.OK {
			t.Errorf("%v may not be: %v", m, e)
		}
	}
}

// isTask holds whether a task may be.
func isTask(t *testing.T, want bool, x api.Task) {
	t.Helper()
	got := asRule(t, "Check", given{Task: x})
	if got.Err != map[bool]api.Errno{true: api.OK, false: api.ErrTask}[want] {
		t.Errorf("Check(%v): %v, not %v", short(x), got.Err, want)
	}
}

// becomes holds what a call makes of a task, and tells that.
func becomes(t *testing.T, name string, g given, want api.Task) api.Task {
	t.Helper()
	got := asRule(t, name, g)
	if got.Err != api.OK || !same(got.Task, want) {
		t.Errorf("%s of %v, %v: %v, %v, not %v", name, short(g.Task), g.Msg, short(got.Task), got.Err, short(want))
	}
	return got.Task
}

// hears, goesOn and ticks hold what becomes of a task.
func hears(t *testing.T, x api.Task, m api.Msg, want api.Task) api.Task {
	t.Helper()
	return becomes(t, "Hear", given{Task: x, Msg: m}, want)
}

func goesOn(t *testing.T, x api.Task, tables [][]api.Row, want api.Task) api.Task {
	t.Helper()
	return becomes(t, "Go", given{Task: x, Tables: tables}, want)
}

func ticks(t *testing.T, x, want api.Task, msgs ...api.Msg) api.Task {
	t.Helper()
	got := asRule(t, "Tick", given{Task: x})
	if got.Err != api.OK || !same(got.Task, want) || !same(got.Msgs, msgs) {
		t.Errorf("Tick of %v: %v, %v, %v, not %v, %v", short(x), short(got.Task), got.Msgs, got.Err, short(want), msgs)
	}
	return got.Task
}

// tally counts what calls answered.
type tally map[api.Errno]int

// metAll holds that each of these was answered, and nothing else.
func (l tally) metAll(t *testing.T, want ...api.Errno) {
	t.Helper()
	for _, e := range want {
		if l[e] == 0 {
			t.Error(e, "was never met:", l)
		}
	}
	if len(l) != len(want) {
		t.Error(l, want)
	}
}
