package mean_test

import (
	"reflect"
	"slices"
	"testing"

	"bowsprit/api"
	"bowsprit/mean"
)

// own gives a thing memory of its own, with what stands in the room behind the ends of its lists.
func own(v reflect.Value) {
	switch v.Kind() {
	case reflect.Struct:
		for k := range v.NumField() {
			own(v.Field(k))
		}
	case reflect.Slice:
		l := reflect.MakeSlice(v.Type(), v.Cap(), v.Cap())
		reflect.Copy(l, v.Slice(0, v.Cap()))
		v.Set(l.Slice(0, v.Len()))
		for k := range v.Len() {
			own(v.Index(k))
		}
	}
}

// plain makes empty lists nil, those within lists too, so that both are the same.
func plain(v reflect.Value) {
	switch v.Kind() {
	case reflect.Struct:
		for k := range v.NumField() {
			plain(v.Field(k))
		}
	case reflect.Slice:
		if v.Len() == 0 {
			v.SetZero()
		}
		for k := range v.Len() {
			plain(v.Index(k))
		}
	}
}

// copyOf is a thing with memory of its own, of which empty lists are nil.
func copyOf[T any](x T) T {
	own(reflect.ValueOf(&x).Elem())
	plain(reflect.ValueOf(&x).Elem())
	return x
}

// same holds things against one another without the program.
func same[T any](a, b T) bool {
	return reflect.DeepEqual(copyOf(a), copyOf(b))
}

// run is what calls are handed but a stream.
type run struct {
	Plan    api.Plan
	Catalog api.Catalog
	Layout  api.Layout
}

// of is a plan over some.
func of(l api.Layout, frags ...api.Frag) run {
	return run{planOf(frags...), some(), l}
}

// means holds what a plan means.
func (r run) means(t *testing.T, want api.Mean) {
	t.Helper()
	if got, e := mean.Mean(r.Plan, r.Catalog, r.Layout); e != api.OK || !same(got, want) {
		t.Errorf("%v: %v, %v, not %v", r, got, e, want)
	}
}

// meansRows and meansEnds hold that it means rows, and ends alone.
func (r run) meansRows(t *testing.T, want string) {
	t.Helper()
	r.means(t, api.Mean{Rows: list(want)})
}

func (r run) meansEnds(t *testing.T, fault, over bool) {
	t.Helper()
	r.means(t, api.Mean{Fault: fault, Over: over})
}

// is holds what is said of an instance; what stands in To is nothing to it.
func (r run) is(t *testing.T, frag, node int, want told) {
	t.Helper()
	for _, to := range []int{1, -1} {
		s := api.Stream{Frag: frag, From: node, To: to}
		rows, reached, e := mean.Instance(r.Plan, r.Catalog, r.Layout, s)
		if got := (told{rows, reached, e}); reached != want.reached || e != want.err || !same(rows, want.rows) {
			t.Errorf("%v of %v: %v, not %v", s, r, got, want)
		}
	}
}

// comes holds to what rows an instance comes; ends, which end it has; unreached, that it is not reached.
func (r run) comes(t *testing.T, frag, node int, want string) {
	t.Helper()
	r.is(t, frag, node, told{list(want), true, api.OK})
}

func (r run) ends(t *testing.T, frag, node int, want api.Errno) {
	t.Helper()
	r.is(t, frag, node, told{nil, true, want})
}

func (r run) unreached(t *testing.T, frag, node int) {
	t.Helper()
	r.is(t, frag, node, told{})
}

// noInstance holds that there is none.
func (r run) noInstance(t *testing.T, frag, node int) {
	t.Helper()
	r.is(t, frag, node, told{err: api.ErrArg})
}

// isStream and goes hold which rows go on a stream.
func (r run) isStream(t *testing.T, s api.Stream, want []api.Row) {
	t.Helper()
	if got, e := mean.Stream(r.Plan, r.Catalog, r.Layout, s); e != api.OK || !same(got, want) {
		t.Errorf("%v of %v: %v, %v, not %v", s, r, got, e, want)
	}
}

func (r run) goes(t *testing.T, frag, from, to int, want string) {
	t.Helper()
	r.isStream(t, api.Stream{Frag: frag, From: from, To: to}, list(want))
}

// noStream holds that there is no such one.
func (r run) noStream(t *testing.T, s api.Stream) {
	t.Helper()
	if got, e := mean.Stream(r.Plan, r.Catalog, r.Layout, s); e != api.ErrArg || len(got) != 0 {
		t.Errorf("%v of %v: %v, %v, not ErrArg", s, r, got, e)
	}
}

// isRefused holds that each call says an error, whatever stream is asked for, and nothing else.
func (r run) isRefused(t *testing.T, want api.Errno, asked ...api.Stream) {
	t.Helper()
	if got, e := mean.Mean(r.Plan, r.Catalog, r.Layout); e != want || !same(got, api.Mean{}) {
		t.Errorf("%v: %v, %v, not %v", r, got, e, want)
	}
	for _, s := range asked {
		if rows, reached, e := mean.Instance(r.Plan, r.Catalog, r.Layout, s); e != want || reached || len(rows) != 0 {
			t.Errorf("%v of %v: %v, %v, %v, not %v", s, r, rows, reached, e, want)
		}
		if rows, e := mean.Stream(r.Plan, r.Catalog, r.Layout, s); e != want || len(rows) != 0 {
			t.Errorf("%v of %v: %v, %v, not %v", s, r, rows, e, want)
		}
	}
}

// isAsReckoned holds what is said of a plan that may be, over a layout that obeys, and tells what it means: the plan's meaning, and of what is asked for the instance and the stream.
func (r run) isAsReckoned(t *testing.T, asked ...api.Stream) api.Mean {
	t.Helper()
	x := reckoned(r.Plan, r.Layout)
	r.means(t, x.mean())
	all := streamsByRule(r.Plan, x.nodes())
	for _, s := range asked {
		want := told{err: api.ErrArg}
		if slices.Contains(placesByRule(r.Plan, s.Frag, x.nodes()), s.From) {
			want = x.instance(s.Frag, s.From)
		}
		rows, reached, e := mean.Instance(r.Plan, r.Catalog, r.Layout, s)
		if got := (told{rows, reached, e}); reached != want.reached || e != want.err || !same(rows, want.rows) {
			t.Errorf("%v of %v: %v, not %v", s, r, got, want)
		}
		if slices.Contains(all, s) {
			r.isStream(t, s, x.stream(s))
		} else {
			r.noStream(t, s)
		}
	}
	return x.mean()
}

// isAllAsReckoned holds all that is said of it: of each instance, of each stream, and of some that there are not.
func (r run) isAllAsReckoned(t *testing.T) api.Mean {
	t.Helper()
	nodes := len(r.Layout.Parts)
	asked := streamsByRule(r.Plan, nodes)
	for frag := -1; frag <= len(r.Plan.Frags); frag++ {
		for node := -1; node <= nodes+1; node++ {
			asked = append(asked, api.Stream{Frag: frag, From: node, To: -1})
		}
	}
	return r.isAsReckoned(t, asked...)
}
