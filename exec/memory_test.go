package exec_test

import (
	"reflect"
	"slices"
	"testing"

	"bowsprit/api"
	"bowsprit/exec"
)

// eachList goes to all lists that a thing has, those within lists too.
func eachList(v reflect.Value, visit func(reflect.Value)) {
	switch v.Kind() {
	case reflect.Struct:
		for k := range v.NumField() {
			eachList(v.Field(k), visit)
		}
	case reflect.Slice:
		for k := range v.Len() {
			eachList(v.Index(k), visit)
		}
		visit(v)
	}
}

// isRow tells of a list whether it is a row: what is answered may share these with what is handed in.
func isRow(v reflect.Value) bool {
	return v.Type() == reflect.TypeFor[api.Row]()
}

// fill changes a thing; of a list it makes another one.
func fill(v reflect.Value) {
	switch v.Kind() {
	case reflect.Slice:
		other := reflect.MakeSlice(v.Type(), v.Len()+1, v.Len()+1)
		fill(other.Index(v.Len()))
		v.Set(other)
	case reflect.Struct:
		for k := range v.NumField() {
			fill(v.Field(k))
		}
	case reflect.Int, reflect.Int64:
		v.SetInt(v.Int() ^ 0x55)
	case reflect.Uint64:
		v.SetUint(v.Uint() ^ 0x55)
	case reflect.String:
		v.SetString(v.String() + "spoiled")
	case reflect.Bool:
		v.SetBool(!v.Bool())
	}
}

// roomy is a thing with memory of its own: each list, each row has room behind its end, and in that something.
func roomy[T any](x T) T {
	x = copyOf(x)
	eachList(reflect.ValueOf(&x).Elem(), func(v reflect.Value) {
		room := reflect.MakeSlice(v.Type(), v.Len()+3, v.Len()+3)
		reflect.Copy(room, v)
		fill(room.Index(v.Len()))
		fill(room.Index(v.Len() + 2))
		v.Set(room.Slice(0, v.Len()))
	})
	return x
}

// wide is a copy of a thing with all of the room behind its lists.
func wide[T any](x T) T {
	var widen func(v reflect.Value)
	widen = func(v reflect.Value) {
		switch v.Kind() {
		case reflect.Struct:
			for k := range v.NumField() {
				widen(v.Field(k))
			}
		case reflect.Slice:
			l := reflect.MakeSlice(v.Type(), v.Cap(), v.Cap())
			reflect.Copy(l, v.Slice(0, v.Cap()))
			for k := range v.Len() {
				widen(l.Index(k))
			}
			v.Set(l)
		}
	}
	widen(reflect.ValueOf(&x).Elem())
	return x
}

// isAsRoomy holds that nothing has changed of what roomy made of a thing.
func isAsRoomy[T any](t *testing.T, got, was T) {
	t.Helper()
	if !reflect.DeepEqual(wide(got), wide(roomy(was))) {
		t.Errorf("%v became %v", was, got)
	}
}

// spoil changes all that a thing's lists have, and the room behind them, but for what rows have.
func spoil(x any) {
	eachList(reflect.ValueOf(x), func(v reflect.Value) {
		if isRow(v) {
			return
		}
		v = v.Slice(0, v.Cap())
		for k := range v.Len() {
			fill(v.Index(k))
		}
	})
}

// given is what calls are handed.
type given struct {
	Frag api.Frag
	Node api.LNode
	Data data
	Rows []api.Row
}

// answer is what a call answers, as far as it has it.
type answer struct {
	Rows   []api.Row
	Lists  [][]api.Row
	Tables []int
	Err    api.Errno
}

// calls are all calls, Goes to several nodes, by each Way.
func calls() []func(g given) answer {
	l := []func(g given) answer{
		func(g given) answer {
			rows, e := exec.Run(g.Frag, g.Data.Tables, g.Data.Inputs)
			return answer{Rows: rows, Err: e}
		},
		func(g given) answer {
			rows, e := exec.Partial(g.Node, g.Rows)
			return answer{Rows: rows, Err: e}
		},
		func(g given) answer {
			rows, e := exec.Final(g.Node, g.Rows)
			return answer{Rows: rows, Err: e}
		},
		func(g given) answer { return answer{Tables: exec.Inputs(g.Frag)} },
	}
	for _, nodes := range []int{0, 1, 3} {
		for way := range 5 {
			l = append(l, func(g given) answer {
				if g.Frag.Way = way; way != api.WayShuffle {
					g.Frag.Cols = nil
				}
				lists, e := exec.Goes(g.Frag, g.Rows, nodes)
				return answer{Lists: lists, Err: e}
			})
		}
	}
	return l
}

// kept is what is handed in while its memory is watched: such as may be, and such as may not.
func kept() []given {
	var l []given
	d := data{Tables: [][]api.Row{mixedRows(), counted(3), counted(201)}, Inputs: [][]api.Row{mixedRows(), nil, list("1 S5 / 1 NULL / 2 S-1")}}
	add := func(rows []api.Row, n api.LNode, steps ...api.LNode) {
		f := frag(steps...)
		f.Cols = []int{0}
		l = append(l, given{f, n, d, rows})
	}
	for _, x := range overMixed() {
		add(mixedRows(), x.node, scan(0, mixed...), x.node)
		add(mixedRows()[2:], x.node, input(0, mixed...))
	}
	for _, x := range standing() {
		add(x.rows, x.node, input(1, kindsByRule(x.rows)...), x.node)
		add(x.rows, x.node, input(1, kindsByRule(x.rows)...))
		add(with(x.rows, 0, nil), x.node, input(1, kindsByRule(x.rows)...))
	}
	add(mixedRows(), final(1, api.AggSum), scan(0, mixed...), input(0, mixed...), leftJoin(eq(0, 3)))
	add(mixedRows(), final(1, api.AggSum), scan(0, mixed...), input(0, mixed...), union(), scan(0, mixed...), union())
	add(list("1 S5 / 1 NULL / 2 S-1"), final(1, api.AggSum), input(2, ki, ks), final(1, api.AggSum))
	add(list("1 S5 / 1 NULL / 2 S-1"), final(1, api.AggSum), input(2, ki, ks))
	add(counted(3), partial([]int{0}, agg(api.AggSum, bad(0, 2))), scan(1, ki), filter(badTruth(0, 2)))
	add(counted(201), partial([]int{0}), scan(2, ki))
	add(counted(9000), partial([]int{0}), scan(3, ki))
	add(nil, api.LNode{}, project(col(0)), input(2, ki))
	for _, nodes := range noNodes() {
		l = append(l, given{api.Frag{Nodes: nodes, Cols: []int{0}}, distinct(), d, counted(2)})
	}
	return l
}

// R3: what is handed in stays as it was, the room behind a list's end and a row's end too; what is answered may be spoiled, and is not spoiled with what was handed in.
func TestMemory(t *testing.T) {
	answered := 0
	for _, was := range kept() {
		for k, call := range calls() {
			in := roomy(was)
			first := call(in)
			want := copyOf(first)
			isAsRoomy(t, in, was)
			spoil(first)
			isAsRoomy(t, in, was)
			second := call(in)
			spoil(in)
			if !same(second, want) {
				t.Errorf("call %v of %v: %v, not %v", k, was, second, want)
			}
			if want.Err == api.OK && (len(want.Rows) > 0 || len(want.Lists) > 0 || len(want.Tables) > 0) {
				answered++
			}
		}
	}
	if answered < 150 {
		t.Error(answered)
	}
}

// R3: no two lists of one answer share memory: what is put behind one of them, or into it, reaches no other one.
func TestMemoryWithin(t *testing.T) {
	for _, was := range kept() {
		for k, call := range calls() {
			got, seen := call(was), map[uintptr]bool{}
			eachList(reflect.ValueOf(got), func(v reflect.Value) {
				room := v.Slice(0, v.Cap())
				for at := range room.Len() {
					place := room.Index(at).Addr().Pointer()
					if seen[place] && !isRow(v) {
						t.Errorf("call %v of %v: lists of %v share memory", k, was, got)
					}
					seen[place] = true
				}
			})
			want := call(was)
			eachList(reflect.ValueOf(got), func(v reflect.Value) {
				room := v.Slice(v.Len(), v.Cap())
				for at := range room.Len() {
					if !isRow(v) {
						fill(room.Index(at))
					}
				}
			})
			if !same(got, want) {
				t.Errorf("call %v of %v: %v, not %v", k, was, got, want)
			}
		}
	}
}

// R5: asked again it answers the same, whatever was asked in between.
func TestAgain(t *testing.T) {
	all := calls()
	for _, g := range kept() {
		var wants []answer
		for _, call := range all {
			wants = append(wants, call(g))
		}
		for _, other := range kept()[:20] {
			all[0](other)
		}
		for k, call := range slices.Backward(all) {
			if got := call(g); !same(got, wants[k]) {
				t.Errorf("call %v of %v: %v, not %v", k, g, got, wants[k])
			}
		}
	}
}
