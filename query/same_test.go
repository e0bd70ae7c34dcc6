package query_test

import (
	"math"
	"reflect"
	"slices"
	"testing"

	"bowsprit/api"
	"bowsprit/query"
)

// variant is a thing with the thing of a number changed, if there are so many: each number, truth and text in it, each list shorter and longer.
func variant[T any](x T, number int) (T, bool) {
	x = copyOf(x)
	is := changeAt(reflect.ValueOf(&x).Elem(), &number)
	return x, is
}

// things are how many there are that can be changed.
func things[T any](x T) int {
	left := math.MaxInt
	changeAt(reflect.ValueOf(&x).Elem(), &left)
	return math.MaxInt - left
}

// variants are a thing with each of these changed.
func variants[T any](x T) (l []T) {
	for k := range things(x) {
		y, _ := variant(x, k)
		l = append(l, y)
	}
	return l
}

// changeAt does the change of a number, if there are so many; else it counts down.
func changeAt(v reflect.Value, left *int) bool {
	switch v.Kind() {
	case reflect.Struct:
		for k := range v.NumField() {
			if changeAt(v.Field(k), left) {
				return true
			}
		}
		return false
	case reflect.Slice:
		for k := range v.Len() {
			if changeAt(v.Index(k), left) {
				return true
			}
		}
		if *left--; *left == -1 {
			v.Set(reflect.Append(v, reflect.Zero(v.Type().Elem())))
			return true
		}
		if v.Len() == 0 {
			return false
		}
		if *left--; *left == -1 {
			v.SetLen(v.Len() - 1)
			return true
		}
		return false
	}
	if *left--; *left == -1 {
		nudge(v)
		return true
	}
	return false
}

// nudge makes something else of a thing that is no list and no struct, as near to it as may be.
func nudge(v reflect.Value) {
	switch v.Kind() {
	case reflect.Int, reflect.Int64:
		v.SetInt(v.Int() ^ 1)
	case reflect.Uint32, reflect.Uint64:
		v.SetUint(v.Uint() ^ 1)
	case reflect.String:
		v.SetString(v.String() + "a")
	case reflect.Bool:
		v.SetBool(!v.Bool())
	}
}

// isSame holds whether two lives are the same, whichever stands first.
func isSame(t *testing.T, want bool, a, b api.Life) {
	t.Helper()
	if query.Same(a, b) != want || query.Same(b, a) != want {
		t.Errorf("%v and %v: %v, %v, not %v", a, b, query.Same(a, b), query.Same(b, a), want)
	}
}

// stuffed is a life that may not be: all of its fields have something, and all fields of all that it has.
func stuffed() api.Life {
	node := api.LNode{Op: 1, A: 2, B: 3, Table: 4, Kinds: []int{5}, Left: true, Cond: eq(6, 7), Keys: []int{8}, Aggs: []api.Agg{agg(9, col(1))}, Items: []api.Expr{num(1)}, Order: []api.Ord{{Col: 10, Desc: true}}, Limit: 11}
	f := api.Frag{Nodes: []api.LNode{node, {}}, At: 12, Way: 13, Cols: []int{14, 15}}
	return copyOf(api.Life{
		Epoch: 20, State: 21, Program: api.Program{Plan: planOf(f, api.Frag{At: 16}), Names: []string{"a", "", "b"}},
		Report: api.Report{Err: 22, At: 23, Names: []string{"c", "d"}, Rows: list("1 'a' / NULL / S5 TRUE / 1 'a'")},
	})
}

// P27.3: whatever is another field, of the life, of one fragment, name, row or value: they are not the same; such as may not be are held against one another, too.
func TestSame(t *testing.T) {
	count := 0
	all := append(append(running(), ended()...), stuffed(), api.Life{})
	for k, l := range all {
		isSame(t, true, l, copyOf(l))
		for n, other := range all {
			isSame(t, n == k, l, other)
		}
		changed := variants(l)
		for n, v := range changed {
			isSame(t, false, l, v)
			isSame(t, true, v, copyOf(v))
			other := changed[(n+1)%len(changed)]
			isSame(t, same(v, other), v, other)
			count++
		}
	}
	if count < 600 {
		t.Error(count)
	}
}

// P27.3: each field alone, at numbers that might fall together in fewer bytes, or if two fields were put together.
func TestSameOfEachField(t *testing.T) {
	l := []api.Life{{}}
	report := func(r api.Report) { l = append(l, api.Life{Report: r}) }
	for _, n := range []int{1, -1, 2, 256, 1 << 32, 1<<32 + 1, -256} {
		l = append(l, api.Life{Epoch: n}, api.Life{State: n}, runs(0, planOf(api.Frag{At: n})), runs(0, planOf(api.Frag{Way: n})), runs(0, planOf(api.Frag{Cols: []int{n}})))
		report(api.Report{Err: api.Errno(n)})
		report(api.Report{At: n})
	}
	for _, names := range [][]string{{""}, {"", ""}, {"a"}, {"b"}, {"a", "b"}, {"b", "a"}, {"ab"}, {"ab", ""}, {"a", "", "b"}, {" "}, {"A"}} {
		l = append(l, api.Life{Program: api.Program{Names: names}})
		report(api.Report{Names: names})
	}
	for _, rows := range [][]api.Row{{{}}, {{}, {}}, list("1"), list("1 1"), list("1 / 1"), list("1 / 2"), list("2 / 1"), list("1 2"), list("'1'"), list("NULL"), {{yes}}, {{under(1)}}, {{{Kind: 9}}}, {{{Kind: 9, N: 1}}}, {{{Kind: kt, U: 1}}}} {
		report(api.Report{Rows: rows})
	}
	l = append(l, runs(0, planOf(api.Frag{})), runs(0, planOf(api.Frag{}, api.Frag{})), runs(0, small()), runs(0, planOf(small().Frags[1], small().Frags[0])))
	for a := range l {
		for b := range l {
			isSame(t, same(l[a], l[b]), l[a], l[b])
		}
	}
}

// P27.3: the same fragments, names and rows, but in another order; some less, some more.
func TestSameOrder(t *testing.T) {
	l := stuffed()
	for _, change := range []func(l *api.Life){
		func(l *api.Life) { slices.Reverse(l.Program.Plan.Frags) },
		func(l *api.Life) { slices.Reverse(l.Program.Plan.Frags[0].Nodes) },
		func(l *api.Life) { slices.Reverse(l.Program.Plan.Frags[0].Cols) },
		func(l *api.Life) { slices.Reverse(l.Program.Names) },
		func(l *api.Life) { slices.Reverse(l.Report.Names) },
		func(l *api.Life) { l.Report.Rows[0], l.Report.Rows[1] = l.Report.Rows[1], l.Report.Rows[0] },
		func(l *api.Life) { slices.Reverse(l.Report.Rows[0]) },
		func(l *api.Life) { l.Program.Names, l.Report.Names = l.Report.Names, l.Program.Names },
		func(l *api.Life) { l.Program.Names, l.Report.Names = nil, append(l.Program.Names, l.Report.Names...) },
		func(l *api.Life) { l.Epoch, l.State = l.State, l.Epoch },
		func(l *api.Life) { l.Report.Rows = append(l.Report.Rows, l.Report.Rows...) },
	} {
		isSame(t, false, l, changing(l, change))
	}
	isSame(t, true, l, changing(l, func(l *api.Life) { l.Report.Rows[0], l.Report.Rows[3] = l.Report.Rows[3], l.Report.Rows[0] })) // both are alike
}

// P27.3, R3: nil and empty lists are one; what stands behind a list's end is nothing to it.
func TestSameOfNothing(t *testing.T) {
	isSame(t, true, api.Life{}, api.Life{Program: api.Program{Plan: api.Plan{Frags: []api.Frag{}}, Names: []string{}}, Report: api.Report{Names: []string{}, Rows: []api.Row{}}})
	isSame(t, true, over(1, has([]api.Row{nil})), over(1, has([]api.Row{{}})))
	isSame(t, false, over(1, has([]api.Row{nil})), over(1, has(nil)))
	isSame(t, true, runs(1, planOf(api.Frag{})), runs(1, planOf(api.Frag{Nodes: []api.LNode{}, Cols: []int{}})))
	for _, l := range append(append(running(), ended()...), stuffed()) {
		isSame(t, true, l, roomy(l))
		isSame(t, true, roomy(l), roomy(roomy(l)))
	}
}
