package denote_test

import (
	"reflect"
	"testing"

	"bowsprit/api"
	"bowsprit/denote"
)

// own gives a thing memory of its own; empty lists become nil, those within lists too, so that both are the same.
func own(v reflect.Value) {
	switch v.Kind() {
	case reflect.Struct:
		for k := range v.NumField() {
			own(v.Field(k))
		}
	case reflect.Slice:
		if v.Len() == 0 {
			v.SetZero()
			return
		}
		l := reflect.MakeSlice(v.Type(), v.Len(), v.Len())
		reflect.Copy(l, v)
		v.Set(l)
		for k := range v.Len() {
			own(v.Index(k))
		}
	}
}

func copyOf[T any](x T) T {
	own(reflect.ValueOf(&x).Elem())
	return x
}

// same holds things against one another without the program.
func same[T any](a, b T) bool {
	return reflect.DeepEqual(copyOf(a), copyOf(b))
}

// isRows holds that an answer is rows, in their order.
func isRows(t *testing.T, want []api.Row) func([]api.Row, api.Errno) {
	t.Helper()
	return func(got []api.Row, e api.Errno) {
		t.Helper()
		if e != api.OK || !same(got, want) {
			t.Errorf("%v, %v, not %v", got, e, want)
		}
	}
}

// isNone holds that an answer is an error, and beside it nothing.
func isNone(t *testing.T, want api.Errno) func([]api.Row, api.Errno) {
	t.Helper()
	return func(got []api.Row, e api.Errno) {
		t.Helper()
		if e != want || len(got) != 0 {
			t.Errorf("%v of %v rows, not %v", e, len(got), want)
		}
	}
}

// comesTo holds what a tree comes to, as rows that are written.
func comesTo(t *testing.T, l api.Logic, b api.Base, want string) {
	t.Helper()
	isRows(t, list(want))(denote.Rows(l, b))
	ruled(t, l, b)
}

// ruled holds a tree against what is reckoned of it apart from the program, and tells that.
func ruled(t *testing.T, l api.Logic, b api.Base) ([]api.Row, api.Errno) {
	t.Helper()
	want, e := byRule(l, b)
	if e == api.OK {
		isRows(t, want)(denote.Rows(l, b))
	} else {
		isNone(t, e)(denote.Rows(l, b))
	}
	return want, e
}

// refuses holds that a tree comes to an error, be it alone or below others.
func refuses(t *testing.T, l api.Logic, b api.Base, want api.Errno) {
	t.Helper()
	isNone(t, want)(denote.Rows(l, b))
	isNone(t, want)(denote.Rows(tree(sortBy(0), tree(distinct(), l)), b))
	if _, e := byRule(l, b); e != want {
		t.Errorf("%v by the rule, not %v", e, want)
	}
}

// is holds what an aggregate comes to.
func is(t *testing.T, want api.Value) func(api.Value, api.Errno) {
	t.Helper()
	return func(got api.Value, e api.Errno) {
		t.Helper()
		if e != api.OK || got != want {
			t.Errorf("%v, %v, not %v", got, e, want)
		}
	}
}

// isNot holds that an aggregate comes to an error.
func isNot(t *testing.T, want api.Errno) func(api.Value, api.Errno) {
	t.Helper()
	return func(got api.Value, e api.Errno) {
		t.Helper()
		if e != want || got != (api.Value{}) {
			t.Errorf("%v, %v, not %v", got, e, want)
		}
	}
}
