package mean_test

import (
	"math"
	"reflect"
	"slices"
	"testing"

	"bowsprit/api"
	"bowsprit/mean"
)

// eachList goes to all lists that a thing has, those within lists too.
func eachList(v reflect.Value, visit func(reflect.Value)) {
	switch v.Kind() {
	case reflect.Struct:
		for k := range v.NumField() {
			eachList(v.Field(k), visit)
		}
	case reflect.Slice:
		for k := range v.Len() {
			eachList(v.Index(k), visit)
		}
		visit(v)
	}
}

// isRow tells of a list whether it is a row: what is answered may share these with what is handed in.
func isRow(v reflect.Value) bool {
	return v.Type() == reflect.TypeFor[api.Row]()
}

// fill changes a thing; of a list it makes another one.
func fill(v reflect.Value) {
	switch v.Kind() {
	case reflect.Slice:
		other := reflect.MakeSlice(v.Type(), v.Len()+1, v.Len()+1)
		fill(other.Index(v.Len()))
		v.Set(other)
	case reflect.Struct:
		for k := range v.NumField() {
			fill(v.Field(k))
		}
	case reflect.Int, reflect.Int64:
		v.SetInt(v.Int() ^ 0x55)
	case reflect.Uint64:
		v.SetUint(v.Uint() ^ 0x55)
	case reflect.String:
		v.SetString(v.String() + "spoiled")
	case reflect.Bool:
		v.SetBool(!v.Bool())
	}
}

// roomy is a thing with memory of its own: each list, each row has room behind its end, and in that something.
func roomy[T any](x T) T {
	x = copyOf(x)
	eachList(reflect.ValueOf(&x).Elem(), func(v reflect.Value) {
		room := reflect.MakeSlice(v.Type(), v.Len()+3, v.Len()+3)
		reflect.Copy(room, v)
		fill(room.Index(v.Len()))
		fill(room.Index(v.Len() + 2))
		v.Set(room.Slice(0, v.Len()))
	})
	return x
}

// wide is a copy of a thing with all of the room behind its lists.
func wide[T any](x T) T {
	var widen func(v reflect.Value)
	widen = func(v reflect.Value) {
		switch v.Kind() {
		case reflect.Struct:
			for k := range v.NumField() {
				widen(v.Field(k))
			}
		case reflect.Slice:
			l := reflect.MakeSlice(v.Type(), v.Cap(), v.Cap())
			reflect.Copy(l, v.Slice(0, v.Cap()))
			for k := range v.Len() {
				widen(l.Index(k))
			}
			v.Set(l)
		}
	}
	widen(reflect.ValueOf(&x).Elem())
	return x
}

// isAsRoomy holds that nothing has changed of what roomy made of a thing.
func isAsRoomy[T any](t *testing.T, got, was T) {
	t.Helper()
	if !reflect.DeepEqual(wide(got), wide(roomy(was))) {
		t.Errorf("%v became %v", was, got)
	}
}

// spoil changes all that a thing's lists have, and the room behind them, but for what rows have.
func spoil(x any) {
	eachList(reflect.ValueOf(x), func(v reflect.Value) {
		if isRow(v) {
			return
		}
		v = v.Slice(0, v.Cap())
		for k := range v.Len() {
			fill(v.Index(k))
		}
	})
}

// given is what calls are handed: what a plan is run with, a stream, a report, and two means.
type given struct {
	Run    run
	Stream api.Stream
	Means  [2]api.Mean
	Rows   []api.Row
	Err    api.Errno
}

// answer is what a call answers, as far as it has it.
type answer struct {
	Mean api.Mean
	Rows []api.Row
	Is   bool
	Err  api.Errno
}

func calls() []func(g given) answer {
	return []func(g given) answer{
		func(g given) answer {
			m, e := mean.Mean(g.Run.Plan, g.Run.Catalog, g.Run.Layout)
			return answer{Mean: m, Err: e}
		},
		func(g given) answer {
			rows, reached, e := mean.Instance(g.Run.Plan, g.Run.Catalog, g.Run.Layout, g.Stream)
			return answer{Rows: rows, Is: reached, Err: e}
		},
		func(g given) answer {
			rows, e := mean.Stream(g.Run.Plan, g.Run.Catalog, g.Run.Layout, g.Stream)
			return answer{Rows: rows, Err: e}
		},
		func(g given) answer { return answer{Is: mean.May(g.Means[0], g.Rows, g.Err)} },
		func(g given) answer { return answer{Is: mean.Same(g.Means[0], g.Means[1])} },
	}
}

// kept is what is handed in while its memory is watched: such as may be, and such as may not.
func kept() (l []given) {
	add := func(p api.Plan, c api.Catalog, x api.Layout) {
		m := [2]api.Mean{{Rows: list("1 'a' / 2 S5")}, {Rows: list("1 'a' / 2 S5"), Over: len(l)%3 == 0}}
		for _, s := range slices.Concat(asked()[:5], []api.Stream{{Frag: 1, From: 2, To: 1}, {Frag: 2, From: 1}, {Frag: 3, To: 2}, {Frag: 5}}) {
			l = append(l, given{run{p, c, x}, s, m, m[len(l)%2].Rows, api.Errno(len(l)%2) * api.ErrOver})
		}
	}
	layouts := []api.Layout{ofU("1 / 2", "2 / 3 / NULL"), laid(some(), 2, []int{1, 2, 2}, list("1 2 / 5 NULL / 1 2"), counted(5), list("'a' 1"), list("1 'a'")), bare(some(), 2)}
	sorts := []api.Frag{onAll(api.WayGather, scanT(), sortBy(3, down(1))), root(input(0, ki, ki), sortBy(-1, down(0)))}
	halves := []api.Frag{by(onAll(api.WayShuffle, scanW(), partial([]int{1}, agg(api.AggSum, col(0)))), 0), onAll(api.WayCast, input(0, kt, ks), final(1, api.AggSum)), onAll(api.WayGather, input(1, kt, ki)), root(input(2, kt, ki), sortBy(1, down(0)))}
	for _, x := range layouts {
		for _, p := range append(ordinary(), planOf(sorts...), planOf(halves...)) {
			add(p, some(), x)
		}
	}
	for _, p := range noPlans()[:4] {
		add(p.what, some(), layouts[0])
	}
	for _, x := range noLayouts()[15:] {
		add(ordinary()[0], some(), x.what)
	}
	for _, c := range noCatalogs()[:3] {
		add(ordinary()[0], c, layouts[1])
	}
	return l
}

// R3: what is handed in stays as it was, the room behind a list's end and a row's end too; what is answered may be spoiled, and is not spoiled with what was handed in.
func TestMemory(t *testing.T) {
	answered := 0
	for _, was := range kept() {
		for k, call := range calls() {
			in := roomy(was)
			first := call(in)
			want := copyOf(first)
			isAsRoomy(t, in, was)
			spoil(first)
			isAsRoomy(t, in, was)
			second := call(in)
			spoil(in)
			if !same(second, want) {
				t.Errorf("call %v of %v: %v, not %v", k, was, second, want)
			}
			if want.Err == api.OK && len(want.Rows)+len(want.Mean.Rows) > 0 {
				answered++
			}
		}
	}
	if answered < 100 {
		t.Error(answered)
	}
}

// R3: no two lists of one answer share memory: what is put behind one of them, or into it, reaches no other one.
func TestMemoryWithin(t *testing.T) {
	for _, was := range kept() {
		for k, call := range calls() {
			got, seen := call(was), map[uintptr]bool{}
			eachList(reflect.ValueOf(got), func(v reflect.Value) {
				room := v.Slice(0, v.Cap())
				for at := range room.Len() {
					place := room.Index(at).Addr().Pointer()
					if seen[place] && !isRow(v) {
						t.Errorf("call %v of %v: lists of %v share memory", k, was, got)
					}
					seen[place] = true
				}
			})
		}
	}
}

// R3: nothing is kept: what is done to an answer, or to what was handed in, reaches no later answer.
func TestNothingIsKept(t *testing.T) {
	for _, was := range kept() {
		for k, call := range calls() {
			want := copyOf(call(was))
			in := roomy(was)
			got := call(in)
			spoil(got)
			spoil(in)
			if again := call(was); !same(again, want) {
				t.Errorf("call %v of %v: %v, not %v", k, was, again, want)
			}
		}
	}
}

// R5: asked again it answers the same, whatever was asked in between.
func TestAgain(t *testing.T) {
	all := calls()
	for k, g := range kept() {
		var wants []answer
		for _, call := range all {
			wants = append(wants, copyOf(call(g)))
		}
		for _, other := range kept()[k%7 : k%7+5] {
			all[0](other)
			all[1](other)
		}
		for k, call := range slices.Backward(all) {
			if got := call(g); !same(got, wants[k]) {
				t.Errorf("call %v of %v: %v, not %v", k, g, got, wants[k])
			}
		}
	}
}

// R3: nil and empty lists are one, in whatever is handed in.
func TestNilAndEmpty(t *testing.T) {
	empty := func(x given) given {
		x = copyOf(x)
		eachList(reflect.ValueOf(&x).Elem(), func(v reflect.Value) {
			if v.Len() == 0 {
				v.Set(reflect.MakeSlice(v.Type(), 0, 2))
			}
		})
		return x
	}
	for _, g := range kept() {
		for k, call := range calls() {
			if got, want := call(empty(g)), call(copyOf(g)); !same(got, want) {
				t.Errorf("call %v of %v: %v, not %v", k, g, got, want)
			}
		}
	}
}

// R1, R2: whatever is handed in, each call ends, and beside an error there is nothing, but that an instance is reached that has an end.
func TestWhatever(t *testing.T) {
	m := newMaker(217)
	numbers := append(nowhere(9), numbers(0, 9)...)
	number := func() int { return numbers[m.Intn(len(numbers))] }
	refused := 0
	for range 1200 {
		g := given{Run: run{Plan: m.newPlan(4), Catalog: m.catalog}}
		g.Run.Layout = m.laid(m.nodes(), m.base())
		for range m.Intn(6) {
			g.Run.Plan = m.changed(g.Run.Plan)
			if m.Intn(3) == 0 {
				g.Run.Layout = m.changedLayout(g.Run.Layout)
			}
		}
		if m.Intn(20) == 0 {
			g.Run.Catalog.Tables = append(g.Run.Catalog.Tables, api.Table{})
		}
		f := &g.Run.Plan.Frags[m.Intn(len(g.Run.Plan.Frags))]
		switch m.Intn(12) {
		case 0:
			f.Nodes[m.Intn(len(f.Nodes))].A = number()
		case 1:
			f.Nodes[m.Intn(len(f.Nodes))].Table = number()
		case 2:
			f.Way = number()
		case 3:
			f.Cols = append(slices.Clone(f.Cols), number())
		case 4:
			g.Run.Layout.Parts = append(g.Run.Layout.Parts, g.Run.Layout.Parts...)
		}
		g.Stream = api.Stream{Frag: number(), From: number(), To: number()}
		g.Err = api.Errno(m.Intn(math.MaxInt))
		for k, call := range calls() {
			a := call(g)
			ended := k == 1 && (a.Err == api.ErrFault || a.Err == api.ErrOver)
			if a.Err != api.OK && (len(a.Rows)+len(a.Mean.Rows) > 0 || a.Mean.Fault || a.Mean.Over || a.Is != ended) {
				t.Errorf("call %v of %v: %v", k, g, a)
			}
			if a.Err != api.OK {
				refused++
			}
		}
	}
	if refused < 500 {
		t.Error(refused)
	}
}
