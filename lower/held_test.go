package lower_test

import (
	"reflect"
	"slices"
	"testing"

	"bowsprit/api"
	"bowsprit/logic"
	"bowsprit/lower"
)

// own gives a thing memory of its own; empty lists become nil, those within lists too, so that both are the same.
func own(v reflect.Value) {
	switch v.Kind() {
	case reflect.Struct:
		for k := range v.NumField() {
			own(v.Field(k))
		}
	case reflect.Slice:
		if v.Len() == 0 {
			v.SetZero()
			return
		}
		l := reflect.MakeSlice(v.Type(), v.Len(), v.Len())
		reflect.Copy(l, v)
		v.Set(l)
		for k := range v.Len() {
			own(v.Index(k))
		}
	}
}

func copyOf[T any](x T) T {
	own(reflect.ValueOf(&x).Elem())
	return x
}

// same holds things against one another without the program.
func same[T any](a, b T) bool {
	return reflect.DeepEqual(copyOf(a), copyOf(b))
}

// isTree holds that an answer is a tree, node by node, and that this one may be.
func isTree(t *testing.T, want api.Logic) func(api.Logic, api.Errno) {
	t.Helper()
	return func(got api.Logic, e api.Errno) {
		t.Helper()
		if e != api.OK || !same(got, want) {
			t.Errorf("%v\n%v, not\n%v", e, got, want)
		}
		if place, e := logic.Check(got); place != 0 || e != api.OK {
			t.Errorf("%v: %v at %v", got, e, place)
		}
	}
}

// isNone holds that an answer is an error, and beside it no tree.
func isNone(t *testing.T, want api.Errno) func(api.Logic, api.Errno) {
	t.Helper()
	return func(got api.Logic, e api.Errno) {
		t.Helper()
		if e != want || len(got.Nodes) != 0 {
			t.Errorf("%v, %v, not %v", got, e, want)
		}
	}
}

// kindsOf are the kinds of a tree's columns; none, if it may not be.
func kindsOf(l api.Logic) []int {
	kinds, _ := logic.Kinds(l)
	return kinds
}

// query is that of selects whose columns are of kinds, none of them called.
func query(kinds []int, l ...api.BSelect) api.Bound {
	return api.Bound{Selects: l, Names: make([]string, len(kinds)), Kinds: kinds, Limit: -1}
}

// lowers holds what a select is lowered to: alone, as a query, and put together with itself.
func lowers(t *testing.T, c api.Catalog, s api.BSelect, want api.Logic) {
	t.Helper()
	isTree(t, want)(lower.Select(c, s))
	kinds := kindsOf(want)
	isTree(t, tree(sortBy(-1), want))(lower.Lower(c, query(kinds, s)))
	isTree(t, tree(sortBy(-1), tree(union(), want, want)))(lower.Lower(c, query(kinds, s, s)))
}

// refuses holds that a select can't be lowered: alone, as a query, and ahead of others and behind them, whose kinds are these.
func refuses(t *testing.T, c api.Catalog, s api.BSelect) {
	t.Helper()
	refused := isNone(t, api.ErrBound)
	refused(lower.Select(c, s))
	good := from(0, num(1))
	kinds := []int{api.VInt}
	if len(s.Items) > 1 {
		good.Items = slices.Repeat(good.Items, min(len(s.Items), api.MaxWidth))
		kinds = slices.Repeat(kinds, len(good.Items))
	}
	refused(lower.Lower(c, query(kinds, s)))
	refused(lower.Lower(c, query(kinds, s, good)))
	refused(lower.Lower(c, query(kinds, good, s)))
	refused(lower.Lower(c, query(kinds, good, good, s)))
	refused(lower.Lower(c, api.Bound{Selects: []api.BSelect{s}, Limit: -1}))
}
