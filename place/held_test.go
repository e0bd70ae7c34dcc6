package place_test

import (
	"reflect"
	"testing"

	"bowsprit/api"
	"bowsprit/place"
)

// own gives a thing memory of its own; empty lists become nil, those within lists too, so that both are the same.
func own(v reflect.Value) {
	switch v.Kind() {
	case reflect.Struct:
		for k := range v.NumField() {
			own(v.Field(k))
		}
	case reflect.Slice:
		if v.Len() == 0 {
			v.SetZero()
			return
		}
		l := reflect.MakeSlice(v.Type(), v.Len(), v.Len())
		reflect.Copy(l, v)
		v.Set(l)
		for k := range v.Len() {
			own(v.Index(k))
		}
	}
}

func copyOf[T any](x T) T {
	own(reflect.ValueOf(&x).Elem())
	return x
}

// same holds things against one another without the program.
func same[T any](a, b T) bool {
	return reflect.DeepEqual(copyOf(a), copyOf(b))
}

// is holds an answer without an error.
func is[T any](t *testing.T, want T) func(got T, e api.Errno) {
	return func(got T, e api.Errno) {
		t.Helper()
		if e != api.OK || !same(got, want) {
			t.Errorf("%v, %v, not %v", got, e, want)
		}
	}
}

// isNone holds an error, beside which there is nothing.
func isNone[T any](t *testing.T, want api.Errno) func(got T, e api.Errno) {
	return func(got T, e api.Errno) {
		t.Helper()
		var nothing T
		if e != want || !same(got, nothing) {
			t.Errorf("%v, %v, not %v", got, e, want)
		}
	}
}

// refuses holds an error of all calls that take a catalog and a layout, whatever else they are handed.
func refuses(t *testing.T, want api.Errno, c api.Catalog, l api.Layout) {
	t.Helper()
	if e := place.Check(c, l); e != want {
		t.Errorf("%v, %v: %v, not %v", c, l, e, want)
	}
	isNone[bool](t, want)(place.Obeys(c, l))
	isNone[api.Base](t, want)(place.Gather(c, l))
	for _, to := range []int{0, 1, len(l.Parts) + 1} {
		for _, at := range []int{-1, 0} {
			isNone[api.Layout](t, want)(place.Move(c, l, 0, 1, at, to))
			isNone[api.Layout](t, want)(place.Move(c, l, 1, 1, at, to))
			isNone[api.Layout](t, want)(place.Move(c, l, -1, to, at, 1))
		}
	}
}

// isAsByRule holds all that is asked of a catalog that may be and a layout. It tells what Check says.
func isAsByRule(t *testing.T, c api.Catalog, l api.Layout) api.Errno {
	t.Helper()
	if !layoutByRule(c, l) {
		refuses(t, api.ErrLayout, c, l)
		return api.ErrLayout
	}
	want := api.OK
	obeys := obeysByRule(c, l)
	if obeys {
		is(t, gatherByRule(c, l))(place.Gather(c, l))
	} else {
		want = api.ErrScheme
		isNone[api.Base](t, want)(place.Gather(c, l))
	}
	is(t, obeys)(place.Obeys(c, l))
	if e := place.Check(c, l); e != want {
		t.Errorf("%v, %v: %v, not %v", c, l, e, want)
	}
	return want
}

// says holds what Check says, and that the rule says the same.
func says(t *testing.T, want api.Errno, c api.Catalog, l api.Layout) {
	t.Helper()
	if got := isAsByRule(t, c, l); got != want {
		t.Errorf("%v, %v: by the rule %v, not %v", c, l, got, want)
	}
}
