package plan_test

import (
	"reflect"
	"testing"

	"bowsprit/api"
	"bowsprit/plan"
	"bowsprit/prop"
)

// own gives a thing memory of its own, with what stands in the room behind the ends of its lists.
func own(v reflect.Value) {
	switch v.Kind() {
	case reflect.Struct:
		for k := range v.NumField() {
			own(v.Field(k))
		}
	case reflect.Slice:
		l := reflect.MakeSlice(v.Type(), v.Cap(), v.Cap())
		reflect.Copy(l, v.Slice(0, v.Cap()))
		v.Set(l.Slice(0, v.Len()))
		for k := range v.Len() {
			own(v.Index(k))
		}
	}
}

// plain makes empty lists nil, those within lists too, so that both are the same.
func plain(v reflect.Value) {
	switch v.Kind() {
	case reflect.Struct:
		for k := range v.NumField() {
			plain(v.Field(k))
		}
	case reflect.Slice:
		if v.Len() == 0 {
			v.SetZero()
		}
		for k := range v.Len() {
			plain(v.Index(k))
		}
	}
}

// copyOf is a thing with memory of its own, of which empty lists are nil.
func copyOf[T any](x T) T {
	own(reflect.ValueOf(&x).Elem())
	plain(reflect.ValueOf(&x).Elem())
	return x
}

// same holds things against one another without the program.
func same[T any](a, b T) bool {
	return reflect.DeepEqual(copyOf(a), copyOf(b))
}

// isPlanned holds what Plan says of a tree, and that it may be, and is sound.
func isPlanned(t *testing.T, l api.Logic, c api.Catalog, want api.Plan) {
	t.Helper()
	got, e := plan.Plan(l, c)
	if e != api.OK || !same(got, want) {
		t.Errorf("%v:\n%v, %v, not\n%v", l, got, e, want)
	}
	if frag, place, e := prop.Sound(got, c); e != api.OK {
		t.Errorf("%v: %v: %v at %v, %v", l, got, e, frag, place)
	}
}

// becomes holds that a tree over the chapter's catalog becomes fragments.
func becomes(t *testing.T, l []api.LNode, want ...api.Frag) {
	t.Helper()
	isPlanned(t, tree(l...), chapters(), planOf(want...))
}

// refuses holds that Plan says an error, and nothing else.
func refuses(t *testing.T, l api.Logic, c api.Catalog, want api.Errno) {
	t.Helper()
	if got, e := plan.Plan(l, c); e != want || len(got.Frags) != 0 {
		t.Errorf("%v, %v: %v, %v, not %v", l, c, got, e, want)
	}
}
