package query_test

import (
	"reflect"
	"slices"
	"testing"

	"bowsprit/api"
	"bowsprit/query"
)

// shape gives a thing memory of its own; empty lists are nil there.
func shape(v reflect.Value) {
	switch v.Kind() {
	case reflect.Struct:
		for k := range v.NumField() {
			shape(v.Field(k))
		}
	case reflect.Slice:
		if v.Len() == 0 {
			v.SetZero()
			return
		}
		l := reflect.MakeSlice(v.Type(), v.Len(), v.Len())
		reflect.Copy(l, v)
		v.Set(l)
		for k := range v.Len() {
			shape(v.Index(k))
		}
	}
}

// copyOf is a thing with memory of its own.
func copyOf[T any](x T) T {
	shape(reflect.ValueOf(&x).Elem())
	return x
}

// same holds things against one another without the program.
func same[T any](a, b T) bool {
	return reflect.DeepEqual(copyOf(a), copyOf(b))
}

// changing is a thing of which one thing is another.
func changing[T any](x T, change func(*T)) T {
	x = copyOf(x)
	change(&x)
	return x
}

// given is what calls are handed.
type given struct {
	Life, Other api.Life
	Catalog     api.Catalog
	Epoch       int
	Text        string
	Rows        []api.Row
	Err         api.Errno
}

// answer is what a call answers, as far as it has it.
type answer struct {
	Life    api.Life
	Program api.Program
	At      int
	Text    string
	Is      bool
	Err     api.Errno
}

// names are what the calls are called, in their order.
func names() []string {
	return []string{"Compile", "Check", "Begin", "Rows", "Fail", "Cancel", "Text", "Same"}
}

// ending are those that end a life.
func ending() []string {
	return []string{"Rows", "Fail", "Cancel"}
}

// calls are all calls.
func calls() []func(g given) answer {
	lives := func(l api.Life, e api.Errno) answer { return answer{Life: l, Err: e} }
	return []func(g given) answer{
		func(g given) answer {
			p, at, e := query.Compile(g.Catalog, g.Text)
			return answer{Program: p, At: at, Err: e}
		},
		func(g given) answer { return answer{Err: query.Check(g.Life)} },
		func(g given) answer { return lives(query.Begin(g.Catalog, g.Epoch, g.Text)) },
		func(g given) answer { return lives(query.Rows(g.Life, g.Rows)) },
		func(g given) answer { return lives(query.Fail(g.Life, g.Err)) },
		func(g given) answer { return lives(query.Cancel(g.Life)) },
		func(g given) answer {
			text, e := query.Text(g.Life)
			return answer{Text: text, Err: e}
		},
		func(g given) answer { return answer{Is: query.Same(g.Life, g.Other)} },
	}
}

// asRule holds what a call answers against what it is to answer by rule, and tells that: a life that comes of it may be.
func asRule(t *testing.T, name string, g given) answer {
	t.Helper()
	k := slices.Index(names(), name)
	got, want := calls()[k](g), rules()[k](g)
	if !same(got, want) {
		t.Errorf("%s of %v: %v, by rule %v", name, g, got, want)
	}
	if got.Err == api.OK && (name == "Begin" || slices.Contains(ending(), name)) {
		isLife(t, true, got.Life)
	}
	return got
}

// isLife holds whether a life may be.
func isLife(t *testing.T, want bool, l api.Life) {
	t.Helper()
	got := asRule(t, "Check", given{Life: l})
	if got.Err != map[bool]api.Errno{true: api.OK, false: api.ErrLife}[want] {
		t.Errorf("Check(%v): %v, not %v", l, got.Err, want)
	}
}

// compiles holds the plan of a text, and what its columns are called.
func compiles(t *testing.T, c api.Catalog, text string, want api.Plan, names ...string) {
	t.Helper()
	got := asRule(t, "Compile", given{Catalog: c, Text: text})
	if !same(got, answer{Program: api.Program{Plan: want, Names: names}}) {
		t.Errorf("%q: %v, not %v, %q", text, got, want, names)
	}
	begins(t, c, text, api.Life{State: 1, Program: api.Program{Plan: want, Names: names}})
}

// fails holds why a text does not compile, and its place.
func fails(t *testing.T, c api.Catalog, text string, want api.Errno, at int) {
	t.Helper()
	got := asRule(t, "Compile", given{Catalog: c, Text: text})
	if !same(got, answer{Err: want, At: at}) {
		t.Errorf("%q: %v, not %v at %v", text, got, want, at)
	}
	if want == api.ErrCatalog {
		begun(t, given{Catalog: c, Text: text, Epoch: 1}, answer{Err: want})
		return
	}
	begins(t, c, text, api.Life{State: 2, Report: api.Report{Err: want, At: at}})
}

// begun holds what comes of a text at an epoch.
func begun(t *testing.T, g given, want answer) {
	t.Helper()
	if got := asRule(t, "Begin", g); !same(got, want) {
		t.Errorf("Begin of %v: %v, not %v", g, got, want)
	}
}

// begins holds the life of a text, at each epoch that there may be, and that there is none at others.
func begins(t *testing.T, c api.Catalog, text string, want api.Life) {
	t.Helper()
	for epoch := -1; epoch <= api.MaxEpochs+2; epoch++ {
		a := answer{Err: api.ErrArg}
		if epoch >= 1 && epoch <= api.MaxEpochs {
			a = answer{Life: want}
			a.Life.Epoch = epoch
		}
		begun(t, given{Catalog: c, Text: text, Epoch: epoch}, a)
	}
}

// ends holds what a call makes of a life: over, with a report, and nothing else but its epoch.
func ends(t *testing.T, name string, g given, want api.Report) api.Life {
	t.Helper()
	got := asRule(t, name, g)
	if !same(got, answer{Life: api.Life{Epoch: g.Life.Epoch, State: 2, Report: want}}) {
		t.Errorf("%s of %v: %v, not %v", name, g, got, want)
	}
	return got.Life
}

// refuses holds with which error a call ends nothing.
func refuses(t *testing.T, name string, g given, want api.Errno) {
	t.Helper()
	if got := asRule(t, name, g); !same(got, answer{Err: want}) {
		t.Errorf("%s of %v: %v, not %v", name, g, got, want)
	}
}

// reads holds a life's text, hasNoText that there is none, and why.
func reads(t *testing.T, l api.Life, want string) {
	t.Helper()
	if got := asRule(t, "Text", given{Life: l}); !same(got, answer{Text: want}) {
		t.Errorf("Text of %v: %q, %v, not %q", l, got.Text, got.Err, want)
	}
}

func hasNoText(t *testing.T, l api.Life, want api.Errno) {
	t.Helper()
	if got := asRule(t, "Text", given{Life: l}); !same(got, answer{Err: want}) {
		t.Errorf("Text of %v: %q, %v, not %v", l, got.Text, got.Err, want)
	}
}

// tally counts what calls answered.
type tally map[api.Errno]int

// metAll holds that each of these was answered, and nothing else.
func (l tally) metAll(t *testing.T, want ...api.Errno) {
	t.Helper()
	for _, e := range want {
		if l[e] == 0 {
			t.Error(e, "was never met:", l)
		}
	}
	if len(l) != len(want) {
		t.Error(l, want)
	}
}
