package logic_test

import (
	"math"
	"reflect"
	"slices"
	"testing"

	"bowsprit/api"
	"bowsprit/logic"
)

// plain makes empty lists nil, those within lists too, so that both are the same.
func plain(v reflect.Value) {
	switch v.Kind() {
	case reflect.Struct:
		for k := range v.NumField() {
			plain(v.Field(k))
		}
	case reflect.Slice:
		if v.Len() == 0 {
			v.SetZero()
		}
		for k := range v.Len() {
			plain(v.Index(k))
		}
	}
}

// copyOf is a thing with memory of its own, of which empty lists are nil.
func copyOf[T any](x T) T {
	own(reflect.ValueOf(&x).Elem())
	plain(reflect.ValueOf(&x).Elem())
	return x
}

// own gives a thing memory of its own, with what stands in the room behind the ends of its lists.
func own(v reflect.Value) {
	switch v.Kind() {
	case reflect.Struct:
		for k := range v.NumField() {
			own(v.Field(k))
		}
	case reflect.Slice:
		l := reflect.MakeSlice(v.Type(), v.Cap(), v.Cap())
		reflect.Copy(l, v.Slice(0, v.Cap()))
		v.Set(l.Slice(0, v.Len()))
		for k := range v.Len() {
			own(v.Index(k))
		}
	}
}

// same holds trees against one another without the program.
func same(a, b api.Logic) bool {
	return reflect.DeepEqual(copyOf(a), copyOf(b))
}

// may holds that a tree may be, and of which kinds its columns are.
func may(t *testing.T, l api.Logic, kinds ...int) {
	t.Helper()
	if place, e := logic.Check(l); place != 0 || e != api.OK {
		t.Errorf("%v: %v at %v", l, e, place)
	}
	if got, e := logic.Kinds(l); e != api.OK || !slices.Equal(got, kinds) {
		t.Errorf("%v: %v, %v, not %v", l, got, e, kinds)
	}
}

// isNone holds that an answer is an error, and beside it no tree.
func isNone(t *testing.T, want api.Errno) func(api.Logic, api.Errno) {
	t.Helper()
	return func(got api.Logic, e api.Errno) {
		t.Helper()
		if e != want || len(got.Nodes) != 0 {
			t.Errorf("%v, %v, not %v", got, e, want)
		}
	}
}

// is holds that an answer is a tree, and that this one may be.
func is(t *testing.T, want api.Logic) func(api.Logic, api.Errno) {
	t.Helper()
	return func(got api.Logic, e api.Errno) {
		t.Helper()
		if e != api.OK || !same(got, want) {
			t.Errorf("%v, %v, not %v", got, e, want)
		}
		if place, e := logic.Check(got); place != 0 || e != api.OK {
			t.Errorf("%v: %v at %v", got, e, place)
		}
	}
}

// mayNot holds of a tree that may not be for all calls, in each place where one is handed in, whatever else is wrong.
func mayNot(t *testing.T, place int, l api.Logic) {
	t.Helper()
	if got, e := logic.Check(l); got != place || e != api.ErrLogic {
		t.Errorf("%v: %v at %v, not at %v", l, e, got, place)
	}
	if kinds, e := logic.Kinds(l); e != api.ErrLogic || len(kinds) != 0 {
		t.Errorf("%v: %v, %v", l, kinds, e)
	}
	refused := isNone(t, api.ErrLogic)
	for _, k := range []int{0, len(l.Nodes) - 1, len(l.Nodes), -1, 1, math.MaxInt, math.MinInt} {
		refused(logic.Part(l, k))
	}
	for _, n := range []api.LNode{distinct(), project(num(1)), sortBy(-1), scan(0, api.VInt), union(), {}} {
		refused(logic.One(n, l))
		refused(logic.Two(n, l, tableT()))
		refused(logic.Two(n, tableT(), l))
		refused(logic.Two(n, l, l))
	}
	if logic.Safe(l) || len(logic.Tables(l)) != 0 {
		t.Errorf("%v: %v, %v", l, logic.Safe(l), logic.Tables(l))
	}
}

// mayNotBe holds that a node over parts may not be, at its own place: as the root, below another one, and when it is to be made.
func mayNotBe(t *testing.T, root api.LNode, parts ...api.Logic) {
	t.Helper()
	l := tree(root, parts...)
	place := len(l.Nodes) - 1
	mayNot(t, place, l)
	mayNot(t, place, tree(distinct(), l))
	mayNot(t, place, tree(join(lit(yes)), l, tableT()))
	refused := isNone(t, api.ErrLogic)
	switch len(parts) {
	case 0:
		refused(logic.Leaf(root))
	case 1:
		refused(logic.One(root, parts[0]))
	case 2:
		refused(logic.Two(root, parts[0], parts[1]))
	}
}

// mayBe holds that a node over parts may be, and is made of them.
func mayBe(t *testing.T, kinds []int, root api.LNode, parts ...api.Logic) {
	t.Helper()
	l := tree(root, parts...)
	may(t, l, kinds...)
	made := is(t, l)
	switch len(parts) {
	case 0:
		made(logic.Leaf(root))
	case 1:
		made(logic.One(root, parts[0]))
	case 2:
		made(logic.Two(root, parts[0], parts[1]))
	}
	if root.Op == api.LSort {
		mayNot(t, len(l.Nodes)-1, tree(distinct(), l))
	} else {
		may(t, tree(distinct(), l), kinds...)
	}
}
