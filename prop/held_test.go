package prop_test

import (
	"reflect"
	"slices"
	"testing"

	"bowsprit/api"
	"bowsprit/prop"
)

// own gives a thing memory of its own, with what stands in the room behind the ends of its lists.
func own(v reflect.Value) {
	switch v.Kind() {
	case reflect.Struct:
		for k := range v.NumField() {
			own(v.Field(k))
		}
	case reflect.Slice:
		l := reflect.MakeSlice(v.Type(), v.Cap(), v.Cap())
		reflect.Copy(l, v.Slice(0, v.Cap()))
		v.Set(l.Slice(0, v.Len()))
		for k := range v.Len() {
			own(v.Index(k))
		}
	}
}

// plain makes empty lists nil, those within lists too, so that both are the same.
func plain(v reflect.Value) {
	switch v.Kind() {
	case reflect.Struct:
		for k := range v.NumField() {
			plain(v.Field(k))
		}
	case reflect.Slice:
		if v.Len() == 0 {
			v.SetZero()
		}
		for k := range v.Len() {
			plain(v.Index(k))
		}
	}
}

// copyOf is a thing with memory of its own, of which empty lists are nil.
func copyOf[T any](x T) T {
	own(reflect.ValueOf(&x).Elem())
	plain(reflect.ValueOf(&x).Elem())
	return x
}

// same holds things against one another without the program.
func same[T any](a, b T) bool {
	return reflect.DeepEqual(copyOf(a), copyOf(b))
}

// nodesAre holds that nodes may be, and of which kinds each one's columns are.
func nodesAre(t *testing.T, l []api.LNode, want ...[]int) {
	t.Helper()
	if got, place, e := prop.Kinds(l); place != 0 || e != api.OK || !same(got, want) {
		t.Errorf("%v: %v, %v at %v, not %v", l, got, e, place, want)
	}
}

// mayBe holds that nodes may be, and of which kinds the root's columns are.
func mayBe(t *testing.T, l []api.LNode, kinds ...int) {
	t.Helper()
	got, place, e := prop.Kinds(l)
	if place != 0 || e != api.OK || len(got) != len(l) || !slices.Equal(lastOf(got), kinds) {
		t.Errorf("%v: %v, %v at %v, not %v", l, got, e, place, kinds)
	}
}

// mayNot holds that nodes may not be, because of that of a place: by themselves, and as the last fragment of a plan.
func mayNot(t *testing.T, at int, l []api.LNode) {
	t.Helper()
	if got, place, e := prop.Kinds(l); place != at || e != api.ErrFrag || len(got) != 0 {
		t.Errorf("%v: %v, %v at %v, not at %v", l, got, e, place, at)
	}
	if got, e := prop.Columns(plan(onAll(api.WayRoot, scanT()), api.Frag{Nodes: l})); e != api.ErrFrag || len(got) != 0 {
		t.Errorf("%v: %v, %v", l, got, e)
	}
}

// says holds what Check says of a plan, and that Props and Sound say the same, if that is an error.
func says(t *testing.T, frag, place int, want api.Errno, p api.Plan, c api.Catalog) {
	t.Helper()
	if f, k, e := prop.Check(p, c); f != frag || k != place || e != want {
		t.Errorf("%v, %v: %v at %v, %v, not %v at %v, %v", p, c, e, f, k, want, frag, place)
	}
	if want == api.OK {
		return
	}
	if f, k, e := prop.Sound(p, c); f != frag || k != place || e != want {
		t.Errorf("%v, %v: Sound says %v at %v, %v, not %v at %v, %v", p, c, e, f, k, want, frag, place)
	}
	for _, number := range []int{0, frag, len(p.Frags), -1} {
		if got, e := prop.Props(p, c, number); e != want || len(got) != 0 {
			t.Errorf("%v, %v: Props of %v: %v, %v, not %v", p, c, number, got, e, want)
		}
	}
}

// planMayBe holds that a plan may be, over the chapter's catalog.
func planMayBe(t *testing.T, p api.Plan) {
	t.Helper()
	says(t, 0, 0, api.OK, p, chapters())
}

// noFrag holds that it may not, because of that fragment and that node of it; noPlan, because of how that one goes together with the others.
func noFrag(t *testing.T, frag, place int, p api.Plan) {
	t.Helper()
	says(t, frag, place, api.ErrFrag, p, chapters())
}

func noPlan(t *testing.T, frag int, p api.Plan) {
	t.Helper()
	says(t, frag, 0, api.ErrPlan, p, chapters())
}

// lie holds how the rows of each node of a fragment lie.
func lie(t *testing.T, p api.Plan, frag int, want ...api.Prop) {
	t.Helper()
	if got, e := prop.Props(p, chapters(), frag); e != api.OK || !same(got, want) {
		t.Errorf("%v of %v: %v, %v, not %v", frag, p, got, e, want)
	}
}

// isSound and isNot hold of a plan that it is sound, and that it is not, because of that node of that fragment.
func isSound(t *testing.T, p api.Plan) {
	t.Helper()
	planMayBe(t, p)
	if frag, place, e := prop.Sound(p, chapters()); frag != 0 || place != 0 || e != api.OK {
		t.Errorf("%v: %v at %v, %v", p, e, frag, place)
	}
}

func isNot(t *testing.T, frag, place int, p api.Plan) {
	t.Helper()
	planMayBe(t, p)
	if f, k, e := prop.Sound(p, chapters()); f != frag || k != place || e != api.ErrSound {
		t.Errorf("%v: %v at %v, %v, not at %v, %v", p, e, f, k, frag, place)
	}
}
