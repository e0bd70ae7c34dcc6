package rewrite_test

import (
	"reflect"
	"slices"
	"testing"

	"bowsprit/api"
	"bowsprit/rewrite"
)

// eachList goes to all lists that a thing has, those within lists too.
func eachList(v reflect.Value, visit func(reflect.Value)) {
	switch v.Kind() {
	case reflect.Struct:
		for k := range v.NumField() {
			eachList(v.Field(k), visit)
		}
	case reflect.Slice:
		for k := range v.Len() {
			eachList(v.Index(k), visit)
		}
		visit(v)
	}
}

// fill changes all that is no list in a thing.
func fill(v reflect.Value) {
	switch v.Kind() {
	case reflect.Struct:
		for k := range v.NumField() {
			fill(v.Field(k))
		}
	case reflect.Int, reflect.Int64:
		v.SetInt(v.Int() ^ 0x55)
	case reflect.Uint64:
		v.SetUint(v.Uint() ^ 0x55)
	case reflect.String:
		v.SetString(v.String() + "spoiled")
	case reflect.Bool:
		v.SetBool(!v.Bool())
	}
}

// roomy is a thing with memory of its own: each list has room behind its end, and in that something.
func roomy[T any](x T) T {
	x = copyOf(x)
	eachList(reflect.ValueOf(&x).Elem(), func(v reflect.Value) {
		room := reflect.MakeSlice(v.Type(), v.Len()+3, v.Len()+3)
		reflect.Copy(room, v)
		fill(room.Index(v.Len()))
		fill(room.Index(v.Len() + 2))
		v.Set(room.Slice(0, v.Len()))
	})
	return x
}

// whole is a copy of a thing with all of the room behind its lists.
func whole[T any](x T) T {
	var widen func(v reflect.Value)
	widen = func(v reflect.Value) {
		switch v.Kind() {
		case reflect.Struct:
			for k := range v.NumField() {
				widen(v.Field(k))
			}
		case reflect.Slice:
			l := reflect.MakeSlice(v.Type(), v.Cap(), v.Cap())
			reflect.Copy(l, v.Slice(0, v.Cap()))
			for k := range v.Len() {
				widen(l.Index(k))
			}
			v.Set(l)
		}
	}
	widen(reflect.ValueOf(&x).Elem())
	return x
}

// isAsRoomy holds that nothing has changed of what roomy made of a thing.
func isAsRoomy[T any](t *testing.T, got, was T) {
	t.Helper()
	if !reflect.DeepEqual(whole(got), whole(roomy(was))) {
		t.Errorf("%v became %v", was, got)
	}
}

// spoil changes all that a thing's lists have, and the room behind them.
func spoil[T any](x *T) {
	eachList(reflect.ValueOf(x).Elem(), func(v reflect.Value) {
		v = v.Slice(0, v.Cap())
		for k := range v.Len() {
			fill(v.Index(k))
		}
	})
}

// kept are trees whose memory is watched: of each operator, of each rule, with too many nodes, of chance, and such as may not be.
func kept() []api.Logic {
	g := up(tableT(), group([]int{0}, agg(api.AggMax, col(1))))
	l := append(each(), noTrees()...)
	for _, left := range []bool{false, true} {
		l = append(l, up(both(left), filter(all(is(0, 1), eq(0, 2), is(2, 3)))), up(both(left), filter(lit(yes))), up(both(left), filter(is(1, 1)), filter(is(2, 2)), sortBy(2, api.Ord{Col: 1})))
	}
	l = append(l, up(tableT(), project(cols(1, 0)...), project(cols(0, 0)...)), up(g, distinct(), distinct()), up(g, project(cols(0, 1)...), distinct()))
	for count := api.MaxLogic - 2; count <= api.MaxLogic; count++ {
		l = append(l, goes(count, is(0, 1), eq(1, 2), is(2, 2)))
	}
	for seed := range int64(20) {
		m := newMaker(seed, 4)
		for range 10 {
			made, _ := m.query()
			l = append(l, made)
		}
	}
	return slices.DeleteFunc(l, func(l api.Logic) bool { return len(l.Nodes) > 1000 })
}

// asked is all that is answered of a tree.
type asked struct {
	Made, Top api.Logic
	Done      bool
	E, F      api.Errno
}

func ask(l api.Logic) (a asked) {
	a.Made, a.E = rewrite.Rewrite(l)
	a.Top, a.Done, a.F = rewrite.Top(l)
	return a
}

// R3: what is handed in stays as it was, the room behind each list's end too; what is answered has no room with what was handed in, nor with another answer.
func TestMemory(t *testing.T) {
	for _, l := range kept() {
		in := roomy(l)
		first := ask(in)
		want := copyOf(first)
		isAsRoomy(t, in, l)
		spoil(&first.Made)
		isAsRoomy(t, in, l)
		if !same(first.Top, want.Top) {
			t.Errorf("%v was spoiled with another answer", show(l))
		}
		spoil(&first.Top)
		isAsRoomy(t, in, l)
		second := ask(in)
		spoil(&in)
		if !same(second, want) {
			t.Errorf("%v became %v, not %v", show(l), show(second.Made), show(want.Made))
		}
	}
}

// grown has each list of a thing with one thing more behind its end, as far as there is room.
func grown[T any](x T) T {
	eachList(reflect.ValueOf(&x).Elem(), func(v reflect.Value) {
		if all := v.Slice(0, v.Cap()); v.Len() < v.Cap() {
			fill(all.Index(v.Len()))
		}
	})
	return x
}

// R3: no two lists of one answer share room: what is put behind the end of one is not seen in another one.
func TestMemoryOfOneAnswer(t *testing.T) {
	for _, l := range kept() {
		a := ask(l)
		want := copyOf(a)
		if grown(a); !same(a, want) {
			t.Errorf("%v: lists of one answer share room", show(l))
		}
	}
	for _, cond := range []api.Expr{all(is(0, 1), is(0, 2), is(2, 3), eq(0, 2), is(2, 4), eq(1, 2), lit(no)), is(0, 1), eq(0, 2)} {
		for _, outer := range []bool{false, true} {
			in := roomy(cond)
			a, b, c, _ := rewrite.Sides(in, 2, outer)
			sides := [][]api.Expr{a, b, c}
			want := copyOf(sides)
			isAsRoomy(t, in, cond)
			if grown(sides); !same(sides, want) {
				t.Errorf("%v: lists of one answer share room", showExpr(cond))
			}
			spoil(&sides[1])
			spoil(&in)
			if !same(sides[0], want[0]) || !same(sides[2], want[2]) {
				t.Errorf("%v: lists of one answer share room", showExpr(cond))
			}
		}
	}
}

// R5: asked again it answers the same, whatever was asked in between.
func TestAgain(t *testing.T) {
	l := kept()
	for k := range l {
		want := ask(l[k])
		for range 3 {
			ask(l[(k+1)%len(l)])
			if got := ask(l[k]); !same(got, want) {
				t.Fatalf("%v: %v, not %v", show(l[k]), show(got.Made), show(want.Made))
			}
		}
	}
}
