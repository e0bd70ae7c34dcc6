package plan_test

import (
	"reflect"
	"slices"
	"testing"

	"bowsprit/api"
	"bowsprit/plan"
)

// eachList goes to all lists that a thing has, those within lists too.
func eachList(v reflect.Value, visit func(reflect.Value)) {
	switch v.Kind() {
	case reflect.Struct:
		for k := range v.NumField() {
			eachList(v.Field(k), visit)
		}
	case reflect.Slice:
		for k := range v.Len() {
			eachList(v.Index(k), visit)
		}
		visit(v)
	}
}

// fill changes a thing; of a list it makes another one.
func fill(v reflect.Value) {
	switch v.Kind() {
	case reflect.Slice:
		other := reflect.MakeSlice(v.Type(), v.Len()+1, v.Len()+1)
		fill(other.Index(v.Len()))
		v.Set(other)
	case reflect.Struct:
		for k := range v.NumField() {
			fill(v.Field(k))
		}
	case reflect.Int, reflect.Int64:
		v.SetInt(v.Int() ^ 0x55)
	case reflect.Uint64:
		v.SetUint(v.Uint() ^ 0x55)
	case reflect.String:
		v.SetString(v.String() + "spoiled")
	case reflect.Bool:
		v.SetBool(!v.Bool())
	}
}

// roomy is a thing with memory of its own: each list has room behind its end, and in that something.
func roomy[T any](x T) T {
	x = copyOf(x)
	eachList(reflect.ValueOf(&x).Elem(), func(v reflect.Value) {
		room := reflect.MakeSlice(v.Type(), v.Len()+3, v.Len()+3)
		reflect.Copy(room, v)
		fill(room.Index(v.Len()))
		fill(room.Index(v.Len() + 2))
		v.Set(room.Slice(0, v.Len()))
	})
	return x
}

// wide is a copy of a thing with all of the room behind its lists.
func wide[T any](x T) T {
	var widen func(v reflect.Value)
	widen = func(v reflect.Value) {
		switch v.Kind() {
		case reflect.Struct:
			for k := range v.NumField() {
				widen(v.Field(k))
			}
		case reflect.Slice:
			l := reflect.MakeSlice(v.Type(), v.Cap(), v.Cap())
			reflect.Copy(l, v.Slice(0, v.Cap()))
			for k := range v.Len() {
				widen(l.Index(k))
			}
			v.Set(l)
		}
	}
	widen(reflect.ValueOf(&x).Elem())
	return x
}

// isAsRoomy holds that nothing has changed of what roomy made of a thing.
func isAsRoomy[T any](t *testing.T, got, was T) {
	t.Helper()
	if !reflect.DeepEqual(wide(got), wide(roomy(was))) {
		t.Errorf("%v became %v", was, got)
	}
}

// spoil changes all that a thing's lists have, and the room behind them.
func spoil(x any) {
	eachList(reflect.ValueOf(x), func(v reflect.Value) {
		v = v.Slice(0, v.Cap())
		for k := range v.Len() {
			fill(v.Index(k))
		}
	})
}

// given is what calls are handed.
type given struct {
	Logic   api.Logic
	Catalog api.Catalog
	Plan    api.Plan
}

// answer is what a call answers, as far as it has it.
type answer struct {
	Plan    api.Plan
	Number  int
	Places  []int
	Streams []api.Stream
	Err     api.Errno
}

// calls are all calls, of some fragments, of two nodes.
func calls() []func(g given) answer {
	l := []func(g given) answer{
		func(g given) answer {
			p, e := plan.Plan(g.Logic, g.Catalog)
			return answer{Plan: p, Err: e}
		},
		func(g given) answer {
			s, e := plan.Streams(g.Plan, 2)
			return answer{Streams: s, Err: e}
		},
	}
	for frag := -1; frag < 4; frag++ {
		l = append(l, func(g given) answer {
			n, e := plan.Reader(g.Plan, frag)
			return answer{Number: n, Err: e}
		}, func(g given) answer {
			l, e := plan.Places(g.Plan, frag, 2)
			return answer{Places: l, Err: e}
		}, func(g given) answer {
			s, e := plan.Into(g.Plan, frag, 2, 1)
			return answer{Streams: s, Err: e}
		}, func(g given) answer {
			s, e := plan.Outof(g.Plan, frag, 2, 1)
			return answer{Streams: s, Err: e}
		})
	}
	return l
}

// kept is what is handed in while its memory is watched: such as may be, and such as may not.
func kept() []given {
	var l []given
	none := api.Plan{Frags: []api.Frag{}}
	for _, s := range sides() {
		for _, n := range []api.LNode{filter(eq(0, 1)), project(col(1), num(2), col(0)), group([]int{1, 0}, eachAgg()...), group(nil, eachAgg()...), distinct(), sortBy(3, api.Ord{Col: 1}, api.Ord{Col: 0, Desc: true})} {
			one := overOne(n, s)
			l = append(l, given{tree(one.tree...), chapters(), one.ended()})
		}
		two := overTwo(leftJoin(eqs(0, len(s.kinds()))), s, sideV())
		l = append(l, given{tree(two.tree...), chapters(), two.ended()}, given{tree(two.tree...), api.Catalog{}, none})
	}
	for k, p := range whatever()[:8] {
		l = append(l, given{noTrees()[k+7], chapters(), p})
	}
	for _, wrong := range noCatalogs() {
		l = append(l, given{tree(scanT(), sortBy(1)), wrong, none})
	}
	return append(l, given{tree(chain(29)...), chapters(), api.Plan{Frags: make([]api.Frag, api.MaxFrags+1)}})
}

// R3: what is handed in stays as it was, the room behind a list's end too; what is answered may be spoiled, and is not spoiled with what was handed in.
func TestMemory(t *testing.T) {
	answered := 0
	for _, was := range kept() {
		for k, call := range calls() {
			in := roomy(was)
			first := call(in)
			want := copyOf(first)
			isAsRoomy(t, in, was)
			spoil(first)
			isAsRoomy(t, in, was)
			second := call(in)
			spoil(in)
			if !same(second, want) {
				t.Errorf("call %v of %v: %v, not %v", k, was, second, want)
			}
			if want.Err == api.OK && (len(want.Plan.Frags) > 0 || len(want.Places) > 0 || len(want.Streams) > 0) {
				answered++
			}
		}
	}
	if answered < 100 {
		t.Error(answered)
	}
}

// R3: no two lists of one answer share memory: what is put behind one of them, or into it, reaches no other one.
func TestMemoryWithin(t *testing.T) {
	for _, was := range kept() {
		for k, call := range calls() {
			got, seen := call(was), map[uintptr]bool{}
			eachList(reflect.ValueOf(got), func(v reflect.Value) {
				room := v.Slice(0, v.Cap())
				for at := range room.Len() {
					place := room.Index(at).Addr().Pointer()
					if seen[place] {
						t.Errorf("call %v of %v: lists of %v share memory", k, was, got)
					}
					seen[place] = true
				}
			})
			want := call(was)
			eachList(reflect.ValueOf(got), func(v reflect.Value) {
				room := v.Slice(v.Len(), v.Cap())
				for at := range room.Len() {
					fill(room.Index(at))
				}
			})
			if !same(got, want) {
				t.Errorf("call %v of %v: %v, not %v", k, was, got, want)
			}
		}
	}
}

// R5: asked again it answers the same, whatever was asked in between.
func TestAgain(t *testing.T) {
	all := calls()
	for _, g := range kept() {
		var wants []answer
		for _, call := range all {
			wants = append(wants, call(g))
		}
		for _, other := range kept() {
			all[1](other)
		}
		for k, call := range slices.Backward(all) {
			if got := call(g); !same(got, wants[k]) {
				t.Errorf("call %v of %v: %v, not %v", k, g, got, wants[k])
			}
		}
	}
}
