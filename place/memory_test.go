package place_test

import (
	"reflect"
	"slices"
	"testing"

	"bowsprit/api"
	"bowsprit/place"
)

// eachList goes to all lists that a thing has, those within lists too.
func eachList(v reflect.Value, visit func(reflect.Value)) {
	switch v.Kind() {
	case reflect.Struct:
		for k := range v.NumField() {
			eachList(v.Field(k), visit)
		}
	case reflect.Slice:
		for k := range v.Len() {
			eachList(v.Index(k), visit)
		}
		visit(v)
	}
}

// fill changes a thing; of a list it makes another one.
func fill(v reflect.Value) {
	switch v.Kind() {
	case reflect.Slice:
		other := reflect.MakeSlice(v.Type(), v.Len()+1, v.Len()+1)
		fill(other.Index(v.Len()))
		v.Set(other)
	case reflect.Struct:
		for k := range v.NumField() {
			fill(v.Field(k))
		}
	case reflect.Int, reflect.Int64:
		v.SetInt(v.Int() ^ 0x55)
	case reflect.Uint64:
		v.SetUint(v.Uint() ^ 0x55)
	case reflect.String:
		v.SetString(v.String() + "spoiled")
	}
}

// roomy is a thing with memory of its own: each list has room behind its end, and in that something.
func roomy[T any](x T) T {
	x = copyOf(x)
	eachList(reflect.ValueOf(&x).Elem(), func(v reflect.Value) {
		room := reflect.MakeSlice(v.Type(), v.Len()+3, v.Len()+3)
		reflect.Copy(room, v)
		fill(room.Index(v.Len()))
		fill(room.Index(v.Len() + 2))
		v.Set(room.Slice(0, v.Len()))
	})
	return x
}

// whole is a copy of a thing with all of the room behind its lists.
func whole[T any](x T) T {
	var widen func(v reflect.Value)
	widen = func(v reflect.Value) {
		switch v.Kind() {
		case reflect.Struct:
			for k := range v.NumField() {
				widen(v.Field(k))
			}
		case reflect.Slice:
			l := reflect.MakeSlice(v.Type(), v.Cap(), v.Cap())
			reflect.Copy(l, v.Slice(0, v.Cap()))
			for k := range v.Len() {
				widen(l.Index(k))
			}
			v.Set(l)
		}
	}
	widen(reflect.ValueOf(&x).Elem())
	return x
}

// isAsRoomy holds that nothing has changed of what roomy made of a thing.
func isAsRoomy[T any](t *testing.T, got, was T) {
	t.Helper()
	if !reflect.DeepEqual(whole(got), whole(roomy(was))) {
		t.Errorf("%v became %v", was, got)
	}
}

// spoil changes all that a thing's lists have, and the room behind them.
func spoil(x any) {
	eachList(reflect.ValueOf(x), func(v reflect.Value) {
		v = v.Slice(0, v.Cap())
		for k := range v.Len() {
			fill(v.Index(k))
		}
	})
}

// given is what calls are handed.
type given struct {
	Catalog api.Catalog
	Base    api.Base
	Layout  api.Layout
	Spread  []int
	Row     api.Row
}

// answer is what a call answers: the layout, the database, the rows, the number, as far as it has them.
type answer struct {
	Layout api.Layout
	Base   api.Base
	Rows   []api.Row
	N      int
	Err    api.Errno
}

// calls are all calls, some of them with several numbers.
func calls() []func(g given) answer {
	l := []func(g given) answer{
		func(g given) answer { return answer{Err: place.Check(g.Catalog, g.Layout)} },
		func(g given) answer {
			ok, e := place.Obeys(g.Catalog, g.Layout)
			return answer{N: map[bool]int{true: 1}[ok], Err: e}
		},
		func(g given) answer {
			b, e := place.Gather(g.Catalog, g.Layout)
			return answer{Base: b, Err: e}
		},
		func(g given) answer {
			return answer{N: map[bool]int{true: 1}[place.Same(g.Layout, g.Layout)]}
		},
	}
	for _, k := range []int{-1, 0, 1, 2, 3, 8} {
		l = append(l, func(g given) answer {
			out, e := place.Lay(g.Catalog, g.Base, k, g.Spread)
			return answer{Layout: out, Err: e}
		})
		for table := -1; table < 5; table++ {
			l = append(l, func(g given) answer { return answer{Rows: place.Rows(g.Layout, k, table)} }, func(g given) answer {
				n, e := place.Where(g.Catalog, table, g.Row, k)
				return answer{N: n, Err: e}
			})
			for _, to := range []int{0, 1, 2, k} {
				l = append(l, func(g given) answer {
					out, e := place.Move(g.Catalog, g.Layout, table, k, max(0, to-1), to)
					return answer{Layout: out, Err: e}
				})
			}
		}
	}
	return l
}

// kept is what is handed in while its memory is watched: such as may be, and such as may not.
func kept() []given {
	c := several()
	b := fullBase(c, 12)
	laid := layByRule(c, b, 3, []int{1, -1, 0})
	l := []given{
		{c, b, laid, []int{2, -1, 7}, one("1 'a' TRUE 2")},
		{c, b, layout(b), nil, one("NULL NULL NULL NULL")},
		{c, b, layout(b, bare(c, 1).Parts[0]), []int{}, one("1 'a'")},
		{chapters(), base(list("3 / 1 / NULL"), list("2 / 2")), layByRule(chapters(), base(list("3 / 1 / NULL"), list("2 / 2")), 2, nil), []int{1}, one("1")},
		{cat(), base(), layout(base(), base()), nil, nil},
		{c, base(), api.Layout{}, nil, nil},
		{c, base(nil, counted(20)), layout(b, b), []int{-1}, one("'a' 'a' 'a' 'a'")},
		{chapters(), base(list("'a'"), nil), layout(base(list("'a'"), nil)), []int{-1}, one("'a'")},
	}
	for _, wrong := range noCatalogs() {
		l = append(l, given{wrong, b, laid, []int{1}, one("1")})
	}
	return l
}

// R3: what is handed in stays as it was, the room behind a list's end too; what is answered may be spoiled, and is not spoiled with what was handed in.
func TestMemory(t *testing.T) {
	answered := 0
	for _, was := range kept() {
		for k, call := range calls() {
			in := roomy(was)
			first := call(in)
			want := copyOf(first)
			isAsRoomy(t, in, was)
			spoil(first)
			isAsRoomy(t, in, was)
			second := call(in)
			spoil(in)
			if !same(second, want) {
				t.Errorf("call %v of %v: %v, not %v", k, was, second, want)
			}
			if want.Err == api.OK && (len(want.Layout.Parts) > 0 || len(want.Rows) > 0 || len(want.Base.Tables) > 0) {
				answered++
			}
		}
	}
	if answered < 100 {
		t.Error(answered)
	}
}

// R3: no two lists of one answer share memory: what is put behind one of them reaches no other one.
func TestMemoryWithin(t *testing.T) {
	for _, was := range kept() {
		for k, call := range calls() {
			want := call(was)
			got := call(was)
			eachList(reflect.ValueOf(got), func(v reflect.Value) {
				room := v.Slice(v.Len(), v.Cap())
				for at := range room.Len() {
					fill(room.Index(at))
				}
			})
			if !same(got, want) {
				t.Errorf("call %v of %v: %v, not %v", k, was, got, want)
			}
		}
	}
}

// R5: asked again it answers the same, whatever was asked in between.
func TestAgain(t *testing.T) {
	all := calls()
	for _, g := range kept() {
		var wants []answer
		for _, call := range all {
			wants = append(wants, call(g))
		}
		for _, other := range kept() {
			all[0](other)
			all[len(all)/2](other)
		}
		for k, call := range slices.Backward(all) {
			if got := call(g); !same(got, wants[k]) {
				t.Errorf("call %v of %v: %v, not %v", k, g, got, wants[k])
			}
		}
	}
}
