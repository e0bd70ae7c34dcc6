package world_test

import (
	"reflect"
	"slices"
	"testing"

	"bowsprit/api"
	"bowsprit/coord"
	"bowsprit/world"
)

// shape gives a thing memory of its own; empty lists are nil there.
func shape(v reflect.Value) {
	switch v.Kind() {
	case reflect.Struct:
		for k := range v.NumField() {
			shape(v.Field(k))
		}
	case reflect.Slice:
		if v.Len() == 0 {
			v.SetZero()
			return
		}
		l := reflect.MakeSlice(v.Type(), v.Len(), v.Len())
		reflect.Copy(l, v)
		v.Set(l)
		for k := range v.Len() {
			shape(v.Index(k))
		}
	}
}

// copyOf is a thing with memory of its own.
func copyOf[T any](x T) T {
	shape(reflect.ValueOf(&x).Elem())
	return x
}

// same holds things against one another without the program.
func same[T any](a, b T) bool {
	return reflect.DeepEqual(a, b) || reflect.DeepEqual(copyOf(a), copyOf(b)) // the first is much less work, and mostly enough
}

// changing is a thing of which one thing is another.
func changing[T any](x T, change func(*T)) T {
	x = copyOf(x)
	change(&x)
	return x
}

// given is what calls are handed.
type given struct {
	World, Other api.World
	Event        api.Event
	Events       []api.Event
	Catalog      api.Catalog
	Layout       api.Layout
	N            int
}

// answer is what a call answers, as far as it has it.
type answer struct {
	World   api.World
	Reply   api.Reply
	Replies []api.Reply
	Layout  api.Layout
	Is      bool
	Err     api.Errno
}

// names are what the calls are called, in their order.
func names() []string {
	return []string{"Check", "New", "Layout", "Do", "Run", "Rounds", "Same"}
}

// becoming are those that answer a world.
func becoming() []string {
	return []string{"New", "Do", "Run", "Rounds"}
}

// calls are all calls. What Do replies of an error is told as one.
func calls() []func(g given) answer {
	return []func(g given) answer{
		func(g given) answer { return answer{Err: world.Check(g.World)} },
		func(g given) answer {
			w, e := world.New(g.Catalog, g.Layout)
			return answer{World: w, Err: e}
		},
		func(g given) answer {
			l, e := world.Layout(g.World)
			return answer{Layout: l, Err: e}
		},
		func(g given) answer {
			w, r := world.Do(g.World, g.Event)
			return answer{World: w, Reply: r, Err: r.Err}
		},
		func(g given) answer {
			w, l, e := world.Run(g.Catalog, g.Layout, g.Events)
			return answer{World: w, Replies: l, Err: e}
		},
		func(g given) answer {
			w, e := world.Rounds(g.World, g.N)
			return answer{World: w, Err: e}
		},
		func(g given) answer { return answer{Is: world.Same(g.World, g.Other)} },
	}
}

// besideError is all that a call answers beside an error: Do the world as it was, and the reply; the others nothing.
func besideError(name string, g given, e api.Errno) answer {
	if name == "Do" {
		return answer{World: g.World, Reply: api.Reply{Err: e}, Err: e}
	}
	return answer{Err: e}
}

// asRule holds what a call answers against what it is to answer by rule, and tells that: a world that comes of it may be.
func asRule(t *testing.T, name string, g given) answer {
	t.Helper()
	k := slices.Index(names(), name)
	got, want := calls()[k](g), rules()[k](g)
	if !same(got, want) {
		t.Errorf("%s of %v: %v, by rule %v", name, g, got, want)
	}
	if got.Err == api.OK && slices.Contains(becoming(), name) {
		isWorld(t, true, got.World)
	}
	return got
}

// isWorld holds whether a world may be.
func isWorld(t *testing.T, want bool, w api.World) {
	t.Helper()
	got := asRule(t, "Check", given{World: w})
	if got.Err != map[bool]api.Errno{true: api.OK, false: api.ErrWorld}[want] {
		t.Errorf("Check(%v): %v, not %v", w, got.Err, want)
	}
}

// becomes holds what a call makes of a world, and what it replies, and tells what the world is then.
func becomes(t *testing.T, name string, g given, want answer) api.World {
	t.Helper()
	got := asRule(t, name, g)
	if !same(got, want) {
		t.Errorf("%s of %v: %v, not %v", name, g, got, want)
	}
	return got.World
}

// does holds what becomes of a world by an event, and the number that is replied.
func does(t *testing.T, w api.World, e api.Event, want api.World, n int) api.World {
	t.Helper()
	return becomes(t, "Do", given{World: w, Event: e}, answer{World: want, Reply: api.Reply{N: n}})
}

// goes has events befall a world, one behind the other, none of which is refused.
func goes(t *testing.T, w api.World, events ...api.Event) api.World {
	t.Helper()
	for _, e := range events {
		got := asRule(t, "Do", given{World: w, Event: e})
		must(t, got.Err)
		w = got.World
	}
	return w
}

// refuses holds with which error a call makes nothing of a world.
func refuses(t *testing.T, name string, g given, want api.Errno) {
	t.Helper()
	if got := asRule(t, name, g); !same(got, besideError(name, g, want)) {
		t.Errorf("%s of %v: %v, not %v", name, g, got, want)
	}
}

// denies holds with which error each of these events is refused.
func denies(t *testing.T, w api.World, want api.Errno, events ...api.Event) {
	t.Helper()
	for _, e := range events {
		refuses(t, "Do", given{World: w, Event: e}, want)
	}
}

// rounds holds what a world is behind so many fair rounds, by rule.
func rounds(t *testing.T, w api.World, n int) api.World {
	t.Helper()
	got := asRule(t, "Rounds", given{World: w, N: n})
	must(t, got.Err)
	return got.World
}

// reports and hasNoReport hold whether a world has a report of an epoch.
func reports(t *testing.T, w api.World, epoch int, want api.Report) {
	t.Helper()
	if got, is := coord.Report(w.Coord, epoch); !is || !same(got, want) {
		t.Errorf("%v reports of %v: %v, %v, not %v", w, epoch, got, is, want)
	}
}

func hasNoReport(t *testing.T, w api.World, epoch int) {
	t.Helper()
	if got, is := coord.Report(w.Coord, epoch); is {
		t.Errorf("%v reports of %v: %v", w, epoch, got)
	}
}

func must(t *testing.T, e api.Errno) {
	t.Helper()
	if e != api.OK {
		t.Fatal(e)
	}
}

// tally counts what calls answered.
type tally map[api.Errno]int

// metAll holds that each of these was answered, and nothing else.
func (l tally) metAll(t *testing.T, want ...api.Errno) {
	t.Helper()
	for _, e := range want {
		if l[e] == 0 {
			t.Error(e, "was never met:", l)
		}
	}
	if len(l) != len(want) {
		t.Error(l, want)
	}
}
