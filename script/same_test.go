package script_test

import (
	"math"
	"reflect"
	"slices"
	"testing"

	"bowsprit/api"
	"bowsprit/script"
)

// variant is a thing with the thing of a number changed, if there are so many: each number, truth and text in it, each list shorter and longer.
func variant[T any](x T, number int) (T, bool) {
	x = copyOf(x)
	is := changeAt(reflect.ValueOf(&x).Elem(), &number)
	return x, is
}

// things are how many there are that can be changed.
func things[T any](x T) int {
	left := math.MaxInt
	changeAt(reflect.ValueOf(&x).Elem(), &left)
	return math.MaxInt - left
}

// variants are a thing with each of these changed.
func variants[T any](x T) (l []T) {
	for k := range things(x) {
		y, _ := variant(x, k)
		l = append(l, y)
	}
	return l
}

// changeAt does the change of a number, if there are so many; else it counts down.
func changeAt(v reflect.Value, left *int) bool {
	switch v.Kind() {
	case reflect.Struct:
		for k := range v.NumField() {
			if changeAt(v.Field(k), left) {
				return true
			}
		}
		return false
	case reflect.Slice:
		for k := range v.Len() {
			if changeAt(v.Index(k), left) {
				return true
			}
		}
		if *left--; *left == -1 {
			v.Set(reflect.Append(v, reflect.Zero(v.Type().Elem())))
			return true
		}
		if v.Len() == 0 {
			return false
		}
		if *left--; *left == -1 {
			v.SetLen(v.Len() - 1)
			return true
		}
		return false
	}
	if *left--; *left == -1 {
		nudge(v)
		return true
	}
	return false
}

// nudge makes something else of a thing that is no list and no struct, as near to it as may be.
func nudge(v reflect.Value) {
	switch v.Kind() {
	case reflect.Int, reflect.Int64:
		v.SetInt(v.Int() ^ 1)
	case reflect.Uint8, reflect.Uint32, reflect.Uint64:
		v.SetUint(v.Uint() ^ 1)
	case reflect.String:
		v.SetString(v.String() + "a")
	case reflect.Bool:
		v.SetBool(!v.Bool())
	}
}

// isSame holds whether two scripts are the same, whichever stands first.
func isSame(t *testing.T, want bool, a, b api.Script) {
	t.Helper()
	if script.Same(a, b) != want || script.Same(b, a) != want {
		t.Errorf("%v and %v: %v, %v, not %v", a, b, script.Same(a, b), script.Same(b, a), want)
	}
}

// stuffed is a script that may not be: all of its fields have something, and all fields of all that it has.
func stuffed() api.Script {
	v := api.Value{Kind: 7, N: 8, U: 9, S: "ab"}
	part := api.Base{Tables: [][]api.Row{{{v, null}, {}}, nil, {{v}}}}
	e := api.Event{Kind: 17, Text: "abc", Epoch: 18, Node: 19, To: 20, At: 21, Num: 22, By: 23}
	return copyOf(api.Script{Catalog: cat(tab("", "a int b text", 42, 43), tab("z", "")), Layout: api.Layout{Parts: []api.Base{part, {}, part}}, Events: []api.Event{e, {}, e}})
}

// P30.1: whatever is another field, of the catalog, of one row, of one event: they are not the same; such as may not be are held against one another, too.
func TestSame(t *testing.T) {
	count := 0
	all := []api.Script{plain(), stuffed(), {}, bare(), bare(eachKind()...), scriptOf(tables(), parts())}
	for k, s := range all {
		for n, other := range all {
			isSame(t, n == k, s, copyOf(other))
		}
		l := variants(s)
		for n, v := range l {
			isSame(t, false, s, v)
			isSame(t, true, v, copyOf(v))
			for _, m := range []int{n + 1, n + 2, n * 3} {
				other := l[m%len(l)]
				isSame(t, same(v, other), v, other)
			}
			count++
		}
	}
	if count < 500 {
		t.Error(count)
	}
}

// P30.1: numbers that might fall together in fewer bytes, in each field of an event, of a value, of a column, of a key.
func TestSameOfNumbers(t *testing.T) {
	l := []api.Script{{}}
	for _, n := range []int64{1, -1, 2, 256, 1 << 32, 1<<32 + 1, math.MinInt64} {
		for _, name := range numberFields() {
			if e, is := setField(api.Event{}, name, n); is {
				l = append(l, api.Script{Events: []api.Event{e}}, api.Script{Events: []api.Event{e, {}}}, api.Script{Events: []api.Event{{}, e}})
			}
		}
		l = append(l, api.Script{Events: []api.Event{{Kind: int(n)}}}, api.Script{Layout: api.Layout{Parts: []api.Base{{Tables: [][]api.Row{{{number(n)}}}}}}}, api.Script{Layout: api.Layout{Parts: []api.Base{{Tables: [][]api.Row{{{{Kind: int(n)}}}}}}}})
		l = append(l, api.Script{Layout: api.Layout{Parts: []api.Base{{Tables: [][]api.Row{{{{U: uint64(n)}}}}}}}}, api.Script{Catalog: cat(api.Table{Keys: []int{int(n)}})}, api.Script{Catalog: cat(api.Table{Columns: []api.Column{{Kind: int(n)}}})})
	}
	for k, a := range l {
		for n, b := range l {
			isSame(t, k == n, a, b)
		}
	}
}

// P30.1: texts that are alike but in letters, blanks, or what stands behind a byte of nothing.
func TestSameOfTexts(t *testing.T) {
	l := []api.Script{}
	for _, s := range []string{"", "a", "A", " a", "a ", "a\x00", "a\x00b", "b", "ä"} {
		l = append(l, api.Script{Events: []api.Event{{Text: s}}}, api.Script{Catalog: cat(api.Table{Name: s})}, api.Script{Catalog: cat(api.Table{Columns: []api.Column{{Name: s}}})}, api.Script{Layout: api.Layout{Parts: []api.Base{{Tables: [][]api.Row{{{{S: s}}}}}}}})
	}
	for k, a := range l {
		for n, b := range l {
			isSame(t, k == n, a, b)
		}
	}
}

// P30.1: the order counts, of events, of parts, of tables, of rows, of columns, of keys; and where one list ends and the next one begins.
func TestSameOrder(t *testing.T) {
	s := of(plain(), func(s *api.Script) {
		s.Layout.Parts[0].Tables[2] = list("'a' TRUE / 'b' TRUE / 'a' TRUE")
	})
	for _, change := range []func(s *api.Script){
		func(s *api.Script) { slices.Reverse(s.Events) }, func(s *api.Script) { s.Events[3], s.Events[4] = s.Events[4], s.Events[3] }, func(s *api.Script) { slices.Reverse(s.Layout.Parts) }, func(s *api.Script) { slices.Reverse(s.Catalog.Tables) },
		func(s *api.Script) { slices.Reverse(s.Catalog.Tables[0].Columns) }, func(s *api.Script) { slices.Reverse(s.Catalog.Tables[2].Keys) }, func(s *api.Script) { slices.Reverse(s.Layout.Parts[0].Tables) }, func(s *api.Script) { slices.Reverse(s.Layout.Parts[0].Tables[1]) },
		func(s *api.Script) { slices.Reverse(s.Layout.Parts[0].Tables[1][0]) }, func(s *api.Script) { l := s.Layout.Parts[0].Tables[2]; l[0], l[1] = l[1], l[0] },
		func(s *api.Script) {
			l := s.Layout.Parts
			l[1].Tables[1], l[0].Tables[1] = l[0].Tables[1], l[1].Tables[1]
		},
	} {
		isSame(t, false, s, of(s, change))
		isSame(t, true, of(s, change), of(s, change))
	}
	parted := func(l ...[][]api.Row) (s api.Script) {
		for _, tables := range l {
			s.Layout.Parts = append(s.Layout.Parts, api.Base{Tables: tables})
		}
		return s
	}
	r := list("1")
	l := []api.Script{parted(), parted(nil), parted(nil, nil), parted([][]api.Row{nil}), parted([][]api.Row{nil, nil}), parted([][]api.Row{r}), parted([][]api.Row{r, nil}), parted([][]api.Row{nil, r}), parted([][]api.Row{r}, nil), parted(nil, [][]api.Row{r}), parted([][]api.Row{r, r}), parted([][]api.Row{r}, [][]api.Row{r}), parted([][]api.Row{list("1 / 1")}), parted([][]api.Row{list("1 1")})}
	for k, a := range l {
		for n, b := range l {
			isSame(t, k == n, a, b)
		}
	}
}

// P30.1: nothing counts that stands behind a list's end; nil and empty are one.
func TestSameOfNothing(t *testing.T) {
	for _, s := range []api.Script{plain(), stuffed(), bare(), {}} {
		isSame(t, true, s, roomy(s))
		isSame(t, true, roomy(s), copyOf(s))
	}
	empty := api.Script{Catalog: api.Catalog{Tables: []api.Table{}}, Layout: api.Layout{Parts: []api.Base{}}, Events: []api.Event{}}
	isSame(t, true, empty, api.Script{})
	isSame(t, true, api.Script{Layout: api.Layout{Parts: []api.Base{{Tables: [][]api.Row{}}}}}, api.Script{Layout: api.Layout{Parts: []api.Base{{}}}})
	isSame(t, true, api.Script{Layout: api.Layout{Parts: []api.Base{{Tables: [][]api.Row{{}}}}}}, api.Script{Layout: api.Layout{Parts: []api.Base{{Tables: [][]api.Row{nil}}}}})
}
