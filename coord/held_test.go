package coord_test

import (
	"reflect"
	"slices"
	"testing"

	"bowsprit/api"
	"bowsprit/coord"
)

// shape gives a thing memory of its own; empty lists are nil there.
func shape(v reflect.Value) {
	switch v.Kind() {
	case reflect.Struct:
		for k := range v.NumField() {
			shape(v.Field(k))
		}
	case reflect.Slice:
		if v.Len() == 0 {
			v.SetZero()
			return
		}
		l := reflect.MakeSlice(v.Type(), v.Len(), v.Len())
		reflect.Copy(l, v)
		v.Set(l)
		for k := range v.Len() {
			shape(v.Index(k))
		}
	}
}

// copyOf is a thing with memory of its own.
func copyOf[T any](x T) T {
	shape(reflect.ValueOf(&x).Elem())
	return x
}

// same holds things against one another without the program.
func same[T any](a, b T) bool {
	return reflect.DeepEqual(a, b) || reflect.DeepEqual(copyOf(a), copyOf(b)) // the first is much less work, and mostly enough
}

// changing is a thing of which one thing is another.
func changing[T any](x T, change func(*T)) T {
	x = copyOf(x)
	change(&x)
	return x
}

// given is what calls are handed.
type given struct {
	Coord, Other api.Coord
	Msg          api.Msg
	Catalog      api.Catalog
	Sites, Epoch int
	Text         string
}

// answer is what a call answers, as far as it has it.
type answer struct {
	Coord  api.Coord
	Msgs   []api.Msg
	Epoch  int
	Report api.Report
	Is     bool
	Err    api.Errno
}

// names are what the calls are called, in their order.
func names() []string {
	return []string{"Check", "New", "Submit", "Cancel", "Hear", "Tick", "Report", "Quiet", "Same"}
}

// becoming are those that answer what becomes of a coordinator.
func becoming() []string {
	return []string{"Submit", "Cancel", "Hear", "Tick"}
}

// calls are all calls.
func calls() []func(g given) answer {
	return []func(g given) answer{
		func(g given) answer { return answer{Err: coord.Check(g.Coord)} },
		func(g given) answer {
			c, e := coord.New(g.Catalog, g.Sites)
			return answer{Coord: c, Err: e}
		},
		func(g given) answer {
			c, epoch, e := coord.Submit(g.Coord, g.Text)
			return answer{Coord: c, Epoch: epoch, Err: e}
		},
		func(g given) answer {
			c, e := coord.Cancel(g.Coord, g.Epoch)
			return answer{Coord: c, Err: e}
		},
		func(g given) answer {
			c, e := coord.Hear(g.Coord, g.Msg)
			return answer{Coord: c, Err: e}
		},
		func(g given) answer {
			c, l, e := coord.Tick(g.Coord)
			return answer{Coord: c, Msgs: l, Err: e}
		},
		func(g given) answer {
			r, is := coord.Report(g.Coord, g.Epoch)
			return answer{Report: r, Is: is}
		},
		func(g given) answer { return answer{Is: coord.Quiet(g.Coord)} },
		func(g given) answer { return answer{Is: coord.Same(g.Coord, g.Other)} },
	}
}

// asRule holds what a call answers against what it is to answer by rule, and tells that: a coordinator that comes of it may be.
func asRule(t *testing.T, name string, g given) answer {
	t.Helper()
	k := slices.Index(names(), name)
	got, want := calls()[k](g), rules()[k](g)
	if !same(got, want) {
		t.Errorf("%s of %v: %v, by rule %v", name, g, got, want)
	}
	if got.Err == api.OK && (name == "New" || slices.Contains(becoming(), name)) {
		isCoord(t, true, got.Coord)
	}
	return got
}

// isCoord holds whether a coordinator may be.
func isCoord(t *testing.T, want bool, c api.Coord) {
	t.Helper()
	got := asRule(t, "Check", given{Coord: c})
	if got.Err != map[bool]api.Errno{true: api.OK, false: api.ErrCoord}[want] {
		t.Errorf("Check(%v): %v, not %v", c, got.Err, want)
	}
}

// becomes holds what a call makes of a coordinator, and what that says, and tells what the coordinator is then.
func becomes(t *testing.T, name string, g given, want answer) api.Coord {
	t.Helper()
	got := asRule(t, name, g)
	if !same(got, want) {
		t.Errorf("%s of %v: %v, not %v", name, g, got, want)
	}
	return got.Coord
}

// submits, cancels, hears and ticks hold what becomes of a coordinator.
func submits(t *testing.T, c api.Coord, text string, want api.Coord) api.Coord {
	t.Helper()
	return becomes(t, "Submit", given{Coord: c, Text: text}, answer{Coord: want, Epoch: len(c.Entries) + 1})
}

func cancels(t *testing.T, c api.Coord, epoch int, want api.Coord) api.Coord {
	t.Helper()
	return becomes(t, "Cancel", given{Coord: c, Epoch: epoch}, answer{Coord: want})
}

func hears(t *testing.T, c api.Coord, m api.Msg, want api.Coord) api.Coord {
	t.Helper()
	return becomes(t, "Hear", given{Coord: c, Msg: m}, answer{Coord: want})
}

func ticks(t *testing.T, c, want api.Coord, said ...api.Msg) api.Coord {
	t.Helper()
	return becomes(t, "Tick", given{Coord: c}, answer{Coord: want, Msgs: said})
}

// deaf holds that messages change nothing.
func deaf(t *testing.T, c api.Coord, msgs ...api.Msg) {
	t.Helper()
	for _, m := range msgs {
		hears(t, c, m, c)
	}
}

// refuses holds with which error a call makes nothing of a coordinator.
func refuses(t *testing.T, name string, g given, want api.Errno) {
	t.Helper()
	if got := asRule(t, name, g); !same(got, answer{Err: want}) {
		t.Errorf("%s of %v: %v, not %v", name, g, got, want)
	}
}

// reports and hasNoReport hold whether there is a report of an epoch.
func reports(t *testing.T, c api.Coord, epoch int, want api.Report) {
	t.Helper()
	if got := asRule(t, "Report", given{Coord: c, Epoch: epoch}); !same(got, answer{Report: want, Is: true}) {
		t.Errorf("%v reports of %v: %v, %v, not %v", c, epoch, got.Report, got.Is, want)
	}
}

func hasNoReport(t *testing.T, c api.Coord, epoch int) {
	t.Helper()
	if got := asRule(t, "Report", given{Coord: c, Epoch: epoch}); !same(got, answer{}) {
		t.Errorf("%v reports of %v: %v, %v", c, epoch, got.Report, got.Is)
	}
}

// isQuiet holds whether a coordinator has nothing to be told any more.
func isQuiet(t *testing.T, want bool, c api.Coord) {
	t.Helper()
	if got := asRule(t, "Quiet", given{Coord: c}); got.Is != want {
		t.Errorf("Quiet(%v): %v", c, got.Is)
	}
}

// tally counts what calls answered.
type tally map[api.Errno]int

// metAll holds that each of these was answered, and nothing else.
func (l tally) metAll(t *testing.T, want ...api.Errno) {
	t.Helper()
	for _, e := range want {
		if l[e] == 0 {
			t.Error(e, "was never met:", l)
		}
	}
	if len(l) != len(want) {
		t.Error(l, want)
	}
}
