package prop_test

import (
	"reflect"
	"slices"
	"testing"

	"bowsprit/api"
	"bowsprit/prop"
)

// eachList goes to all lists that a thing has, those within lists too.
func eachList(v reflect.Value, visit func(reflect.Value)) {
	switch v.Kind() {
	case reflect.Struct:
		for k := range v.NumField() {
			eachList(v.Field(k), visit)
		}
	case reflect.Slice:
		for k := range v.Len() {
			eachList(v.Index(k), visit)
		}
		visit(v)
	}
}

// fill changes a thing; of a list it makes another one.
func fill(v reflect.Value) {
	switch v.Kind() {
	case reflect.Slice:
		other := reflect.MakeSlice(v.Type(), v.Len()+1, v.Len()+1)
		fill(other.Index(v.Len()))
		v.Set(other)
	case reflect.Struct:
		for k := range v.NumField() {
			fill(v.Field(k))
		}
	case reflect.Int, reflect.Int64:
		v.SetInt(v.Int() ^ 0x55)
	case reflect.Uint64:
		v.SetUint(v.Uint() ^ 0x55)
	case reflect.String:
		v.SetString(v.String() + "spoiled")
	case reflect.Bool:
		v.SetBool(!v.Bool())
	}
}

// roomy is a thing with memory of its own: each list has room behind its end, and in that something.
func roomy[T any](x T) T {
	x = copyOf(x)
	eachList(reflect.ValueOf(&x).Elem(), func(v reflect.Value) {
		room := reflect.MakeSlice(v.Type(), v.Len()+3, v.Len()+3)
		reflect.Copy(room, v)
		fill(room.Index(v.Len()))
		fill(room.Index(v.Len() + 2))
		v.Set(room.Slice(0, v.Len()))
	})
	return x
}

// wide is a copy of a thing with all of the room behind its lists.
func wide[T any](x T) T {
	var widen func(v reflect.Value)
	widen = func(v reflect.Value) {
		switch v.Kind() {
		case reflect.Struct:
			for k := range v.NumField() {
				widen(v.Field(k))
			}
		case reflect.Slice:
			l := reflect.MakeSlice(v.Type(), v.Cap(), v.Cap())
			reflect.Copy(l, v.Slice(0, v.Cap()))
			for k := range v.Len() {
				widen(l.Index(k))
			}
			v.Set(l)
		}
	}
	widen(reflect.ValueOf(&x).Elem())
	return x
}

// isAsRoomy holds that nothing has changed of what roomy made of a thing.
func isAsRoomy[T any](t *testing.T, got, was T) {
	t.Helper()
	if !reflect.DeepEqual(wide(got), wide(roomy(was))) {
		t.Errorf("%v became %v", was, got)
	}
}

// spoil changes all that a thing's lists have, and the room behind them.
func spoil(x any) {
	eachList(reflect.ValueOf(x), func(v reflect.Value) {
		v = v.Slice(0, v.Cap())
		for k := range v.Len() {
			fill(v.Index(k))
		}
	})
}

// given is what calls are handed.
type given struct {
	Plan    api.Plan
	Catalog api.Catalog
}

// answer is what a call answers, as far as it has it.
type answer struct {
	Kinds  [][]int
	Props  []api.Prop
	Cols   []int
	Place  spot
	Is, Ok bool
	Err    api.Errno
}

// calls are all calls, of each fragment.
func calls() []func(g given) answer {
	l := []func(g given) answer{
		func(g given) answer {
			frag, place, e := prop.Check(g.Plan, g.Catalog)
			return answer{Place: spot{frag, place}, Err: e}
		},
		func(g given) answer {
			frag, place, e := prop.Sound(g.Plan, g.Catalog)
			return answer{Place: spot{frag, place}, Err: e}
		},
		func(g given) answer {
			cols, e := prop.Columns(g.Plan)
			return answer{Cols: cols, Err: e}
		},
		func(g given) answer { return answer{Is: prop.Same(g.Plan, g.Plan)} },
	}
	for frag := -1; frag < 6; frag++ {
		l = append(l, func(g given) answer {
			props, e := prop.Props(g.Plan, g.Catalog, frag)
			return answer{Props: props, Err: e}
		}, func(g given) answer {
			reader, place, ok := prop.Reader(g.Plan, frag)
			return answer{Place: spot{reader, place}, Ok: ok}
		})
		if frag >= 0 {
			l = append(l, func(g given) answer {
				if frag >= len(g.Plan.Frags) {
					return answer{}
				}
				kinds, place, e := prop.Kinds(g.Plan.Frags[frag].Nodes)
				return answer{Kinds: kinds, Place: spot{0, place}, Err: e}
			})
		}
	}
	return l
}

// kept is what is handed in while its memory is watched: such as may be, and such as may not.
func kept() []given {
	var l []given
	for _, p := range plans()[:16] {
		l = append(l, given{p, chapters()}, given{spoiled(p, 0, func(f *api.Frag) { f.Nodes[0].Limit = 3 }), chapters()}, given{plan(p.Frags[1:]...), chapters()})
	}
	lists, _ := eachOp()
	for _, nodes := range lists {
		l = append(l, given{plan(onAll(api.WayGather, scanT()), api.Frag{Nodes: nodes, At: api.AtAll, Way: api.WayRoot, Cols: []int{0}}), chapters()})
	}
	l = append(l, given{plan(api.Frag{Nodes: []api.LNode{stuffed()}}), chapters()}, given{api.Plan{}, chapters()})
	for _, wrong := range noCatalogs() {
		l = append(l, given{plans()[2], wrong})
	}
	return l
}

// R3: what is handed in stays as it was, the room behind a list's end too; what is answered may be spoiled, and is not spoiled with what was handed in.
func TestMemory(t *testing.T) {
	answered := 0
	for _, was := range kept() {
		for k, call := range calls() {
			in := roomy(was)
			first := call(in)
			want := copyOf(first)
			isAsRoomy(t, in, was)
			spoil(first)
			isAsRoomy(t, in, was)
			second := call(in)
			spoil(in)
			if !same(second, want) {
				t.Errorf("call %v of %v: %v, not %v", k, was, second, want)
			}
			if want.Err == api.OK && (len(want.Kinds) > 0 || len(want.Props) > 0 || len(want.Cols) > 0) {
				answered++
			}
		}
	}
	if answered < 100 {
		t.Error(answered)
	}
}

// R3: no two lists of one answer share memory: what is put behind one of them, or into it, reaches no other one.
func TestMemoryWithin(t *testing.T) {
	for _, was := range kept() {
		for k, call := range calls() {
			got, seen := call(was), map[uintptr]bool{}
			eachList(reflect.ValueOf(got), func(v reflect.Value) {
				room := v.Slice(0, v.Cap())
				for at := range room.Len() {
					place := room.Index(at).Addr().Pointer()
					if seen[place] {
						t.Errorf("call %v of %v: lists of %v share memory", k, was, got)
					}
					seen[place] = true
				}
			})
			want := call(was)
			eachList(reflect.ValueOf(got), func(v reflect.Value) {
				room := v.Slice(v.Len(), v.Cap())
				for at := range room.Len() {
					fill(room.Index(at))
				}
			})
			if !same(got, want) {
				t.Errorf("call %v of %v: %v, not %v", k, was, got, want)
			}
		}
	}
}

// R5: asked again it answers the same, whatever was asked in between.
func TestAgain(t *testing.T) {
	all := calls()
	for _, g := range kept() {
		var wants []answer
		for _, call := range all {
			wants = append(wants, call(g))
		}
		for _, other := range kept() {
			all[1](other)
		}
		for k, call := range slices.Backward(all) {
			if got := call(g); !same(got, wants[k]) {
				t.Errorf("call %v of %v: %v, not %v", k, g, got, wants[k])
			}
		}
	}
}
