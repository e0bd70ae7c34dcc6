package logic_test

import (
	"math/rand"
	"reflect"
	"slices"
	"testing"

	"bowsprit/api"
	"bowsprit/logic"
)

// eachList goes to all lists that a thing has, those within lists too.
func eachList(v reflect.Value, visit func(reflect.Value)) {
	switch v.Kind() {
	case reflect.Struct:
		for k := range v.NumField() {
			eachList(v.Field(k), visit)
		}
	case reflect.Slice:
		for k := range v.Len() {
			eachList(v.Index(k), visit)
		}
		visit(v)
	}
}

// fill changes all that is no list in a thing.
func fill(v reflect.Value) {
	switch v.Kind() {
	case reflect.Struct:
		for k := range v.NumField() {
			fill(v.Field(k))
		}
	case reflect.Int, reflect.Int64:
		v.SetInt(v.Int() ^ 0x55)
	case reflect.Uint64:
		v.SetUint(v.Uint() ^ 0x55)
	case reflect.String:
		v.SetString(v.String() + "spoiled")
	case reflect.Bool:
		v.SetBool(!v.Bool())
	}
}

// roomy is a thing with memory of its own: each list has room behind its end, and in that something.
func roomy[T any](x T) T {
	x = copyOf(x)
	eachList(reflect.ValueOf(&x).Elem(), func(v reflect.Value) {
		room := reflect.MakeSlice(v.Type(), v.Len()+3, v.Len()+3)
		reflect.Copy(room, v)
		fill(room.Index(v.Len()))
		fill(room.Index(v.Len() + 2))
		v.Set(room.Slice(0, v.Len()))
	})
	return x
}

// isAsRoomy holds that nothing has changed of what roomy made of a thing, the room behind lists' ends among it.
func isAsRoomy[T any](t *testing.T, got, was T) {
	t.Helper()
	want := roomy(was)
	whole := func(x *T) {
		eachList(reflect.ValueOf(x).Elem(), func(v reflect.Value) { v.Set(v.Slice(0, v.Cap())) })
	}
	own(reflect.ValueOf(&got).Elem())
	whole(&got)
	whole(&want)
	if !reflect.DeepEqual(got, want) {
		t.Errorf("%v became %v", was, got)
	}
}

// spoil changes all that a thing's lists have, and the room behind them.
func spoil(x any) {
	eachList(reflect.ValueOf(x), func(v reflect.Value) {
		v = v.Slice(0, v.Cap())
		for k := range v.Len() {
			fill(v.Index(k))
		}
	})
}

// isApart holds that no two lists that are told share memory, the room behind their ends among it.
func isApart(t *testing.T, things ...any) {
	t.Helper()
	seen := map[uintptr]int{}
	for _, x := range things {
		eachList(reflect.ValueOf(x), func(v reflect.Value) {
			room := v.Slice(0, v.Cap())
			for k := range room.Len() {
				seen[room.Index(k).Addr().Pointer()]++
			}
		})
	}
	if len(seen) == 0 {
		t.Error("no lists")
	}
	for _, times := range seen {
		if times > 1 {
			t.Errorf("%v share memory", things)
			return
		}
	}
}

// kept are trees whose memory is watched: of each operator, great ones, some of chance, and such as may not be.
func kept() []api.Logic {
	l := slices.Concat(each(), great()[:2], []api.Logic{{}, nodes(filled()), nodes(a(), b()), tree(filter(num(1)), tableT()), tree(distinct(), tree(sortBy(-1, api.Ord{}), tableT()))})
	r := rand.New(rand.NewSource(135))
	for range 30 {
		x, _ := anyQuery(r)
		l = append(l, x)
	}
	return l
}

// R3: what is handed in stays as it was, be it refused or not.
func TestHandedInStays(t *testing.T) {
	roots := []api.LNode{filled(), union(), distinct(), project(col(0), num(5)), group([]int{0}, agg(api.AggAll), agg(api.AggMin, col(0))), filter(on(api.NIsNull, col(0))), join(on(api.NEq, col(0), col(0))), sortBy(3, api.Ord{}), a()}
	for _, x := range kept() {
		l, m := roomy(x), roomy(x)
		logic.Check(l)
		logic.Kinds(l)
		for place := -1; place <= len(l.Nodes); place++ {
			logic.Part(l, place)
		}
		logic.Safe(l)
		logic.Tables(l)
		logic.Same(l, m)
		for _, n := range roots {
			root := roomy(n)
			logic.Leaf(root)
			logic.One(root, l)
			logic.Two(root, l, m)
			logic.Two(root, l, l)
			isAsRoomy(t, root, n)
		}
		isAsRoomy(t, l, x)
		isAsRoomy(t, m, x)
	}
}

// R3: what is answered may be changed without changing what was handed in, and the other way round; no two of its lists are one.
func TestNewMemory(t *testing.T) {
	for _, x := range kept() {
		kinds, _, ok := ruled(x)
		if !ok {
			continue
		}
		l := roomy(x)
		own, _ := logic.Kinds(l)
		part, _ := logic.Part(l, len(x.Nodes)-1)
		tables := logic.Tables(l)
		isApart(t, own, part, tables, l)
		spoil(own)
		spoil(part)
		spoil(tables)
		isAsRoomy(t, l, x)
		part, _ = logic.Part(l, len(x.Nodes)-1)
		spoil(l)
		if !same(part, x) {
			t.Errorf("%v, not %v", part, x)
		}
		if x.Nodes[len(x.Nodes)-1].Op != api.LSort && len(x.Nodes) < api.MaxLogic/2 {
			isMadeApart(t, x, kinds[len(kinds)-1])
		}
	}
	n := scan(2, api.VInt, api.VText)
	root := roomy(n)
	l, _ := logic.Leaf(root)
	isApart(t, l, root)
	spoil(l)
	isAsRoomy(t, root, n)
}

// isMadeApart holds of trees that are made over a part, or over that part twice.
func isMadeApart(t *testing.T, x api.Logic, kinds []int) {
	t.Helper()
	roots := []api.LNode{filter(on(api.NIsNull, col(0))), group([]int{0}, agg(api.AggAll), agg(api.AggMin, col(0))), project(col(0), num(5)), sortBy(3, api.Ord{}), distinct(), union()}
	if len(kinds)*2 <= api.MaxWidth {
		roots = append(roots, leftJoin(on(api.NEq, col(0), col(len(kinds)))))
	}
	for _, n := range roots {
		root, l := roomy(n), roomy(x)
		lay := func() (api.Logic, api.Errno) { return logic.One(root, l) }
		want := tree(n, x)
		if partsByRule[n.Op] == 2 {
			lay = func() (api.Logic, api.Errno) { return logic.Two(root, l, l) }
			want = tree(n, x, x)
		}
		is(t, want)(lay())
		made, _ := lay()
		isApart(t, made, root, l)
		spoil(made)
		isAsRoomy(t, root, n)
		isAsRoomy(t, l, x)
		made, _ = lay()
		spoil(root)
		spoil(l)
		if !same(made, want) {
			t.Errorf("%v, not %v", made, want)
		}
	}
}

// R5: asked again it answers the same.
func TestAgain(t *testing.T) {
	for _, l := range kept() {
		place, e := logic.Check(l)
		for range 20 {
			if again, err := logic.Check(l); again != place || err != e {
				t.Fatal(l, again, err)
			}
		}
	}
}
