package world_test

import (
	"math"
	"reflect"
	"slices"
	"testing"

	"bowsprit/api"
	"bowsprit/world"
)

// variant is a thing with the thing of a number changed, if there are so many: each number, truth and text in it, each list shorter and longer.
func variant[T any](x T, number int) (T, bool) {
	x = copyOf(x)
	is := changeAt(reflect.ValueOf(&x).Elem(), &number)
	return x, is
}

// things are how many there are that can be changed.
func things[T any](x T) int {
	left := math.MaxInt
	changeAt(reflect.ValueOf(&x).Elem(), &left)
	return math.MaxInt - left
}

// variants are a thing with each of these changed.
func variants[T any](x T) (l []T) {
	for k := range things(x) {
		y, _ := variant(x, k)
		l = append(l, y)
	}
	return l
}

// changeAt does the change of a number, if there are so many; else it counts down.
func changeAt(v reflect.Value, left *int) bool {
	switch v.Kind() {
	case reflect.Struct:
		for k := range v.NumField() {
			if changeAt(v.Field(k), left) {
				return true
			}
		}
		return false
	case reflect.Slice:
		for k := range v.Len() {
			if changeAt(v.Index(k), left) {
				return true
			}
		}
		if *left--; *left == -1 {
			v.Set(reflect.Append(v, reflect.Zero(v.Type().Elem())))
			return true
		}
		if v.Len() == 0 {
			return false
		}
		if *left--; *left == -1 {
			v.SetLen(v.Len() - 1)
			return true
		}
		return false
	}
	if *left--; *left == -1 {
		nudge(v)
		return true
	}
	return false
}

// nudge makes something else of a thing that is no list and no struct, as near to it as may be.
func nudge(v reflect.Value) {
	switch v.Kind() {
	case reflect.Int, reflect.Int64:
		v.SetInt(v.Int() ^ 1)
	case reflect.Uint8, reflect.Uint32, reflect.Uint64:
		v.SetUint(v.Uint() ^ 1)
	case reflect.String:
		v.SetString(v.String() + "a")
	case reflect.Bool:
		v.SetBool(!v.Bool())
	}
}

// isSame holds whether two worlds are the same, whichever stands first.
func isSame(t *testing.T, want bool, a, b api.World) {
	t.Helper()
	if world.Same(a, b) != want || world.Same(b, a) != want {
		t.Errorf("%v and %v: %v, %v, not %v", a, b, world.Same(a, b), world.Same(b, a), want)
	}
}

// stuffed is a world that may not be: all of its fields have something, and all fields of all that it has.
func stuffed() api.World {
	node := api.LNode{Op: 1, A: 2, B: 3, Table: 4, Kinds: []int{5}, Left: true, Cond: on(api.NAdd, col(6), num(7)), Keys: []int{8}, Aggs: []api.Agg{agg(9, col(1))}, Items: []api.Expr{num(1)}, Order: []api.Ord{{Col: 10, Desc: true}}, Limit: 11}
	f := api.Frag{Nodes: []api.LNode{node, {}}, At: 26, Way: 27, Cols: []int{28}}
	b := api.Batch{Rows: list("1 'a' / NULL"), End: true, Count: 12}
	s := api.Sender{Session: 13, Base: 14, Queue: []api.Batch{b}, Sent: 15, Limit: 16, Timer: 17, Ended: true}
	r := api.Receiver{Session: 18, Next: 19, Ahead: []api.Held{{Seq: 20, Batch: b}}, Buffer: []api.Batch{b}, Room: 21, Over: true}
	x := api.Task{
		Epoch: 22, Sites: 23, Number: 24, Node: 25, Frag: f, State: 29,
		Ins: []api.In{{Frag: 30, From: 31, Receiver: r, Rows: list("1 / S5")}}, Outs: []api.Out{{To: 33, Sender: s, Rest: list("TRUE / 5 6")}}, Rows: list("'a' / 'b'"), Err: 34,
	}
	w := api.Worker{Node: 40, Sites: 41, Catalog: cat(tab("", "a int b text", 42, 43), tab("z", "")), Tables: [][]api.Row{list("1 'a' / NULL"), nil}, Tasks: []api.Task{x, {Number: 44}}, Has: 45, Gone: 46}
	l := api.Life{
		Epoch: 50, State: 51, Program: api.Program{Plan: api.Plan{Frags: []api.Frag{f, {At: 16}}}, Names: []string{"a", "", "b"}},
		Report: api.Report{Err: 52, At: 53, Names: []string{"c", "d"}, Rows: list("1 'a' / NULL / S5 TRUE")},
	}
	c := api.Coord{Worker: w, Entries: []api.Entry{{Life: l, Has: 54, Gone: 55}, {Has: 56}}}
	n := api.Net{Sent: 60, Parcels: []api.Parcel{{Num: 61, From: 62, To: 63, Bytes: []byte{64, 65}, Spoiled: true}, {Num: 66}}}
	return copyOf(api.World{Coord: c, Workers: []api.Worker{w, {Node: 67}}, Net: n})
}

// P29.1: whatever is another field, of the coordinator, of one worker, of the net and all that they have: they are not the same; such as may not be are held against one another, too.
func TestSame(t *testing.T) {
	count := 0
	all := []api.World{plain(), stuffed(), {}, done(), with(begun(), many(3, 2)...)}
	for k, w := range all {
		for n, other := range all {
			isSame(t, n == k, w, copyOf(other))
		}
		l := variants(w)
		for n, v := range l {
			isSame(t, false, w, v)
			isSame(t, true, v, copyOf(v))
			other := l[(n+1)%len(l)]
			isSame(t, same(v, other), v, other)
			count++
		}
	}
	if count < 1200 {
		t.Error(count)
	}
	w := midst()
	for k := 0; k < things(w); k += 7 {
		v, _ := variant(w, k)
		isSame(t, false, w, v)
	}
}

// P29.1: each part alone: of the coordinator, of one worker, of the net, at numbers that might fall together in fewer bytes, or if two parts were put together.
func TestSameOfEachPart(t *testing.T) {
	l := []api.World{{}, {Workers: []api.Worker{{}}}, {Workers: []api.Worker{{}, {}}}, {Coord: api.Coord{Entries: []api.Entry{{}}}}}
	for _, n := range []int{1, -1, 2, 256, 1 << 32, 1<<32 + 1} {
		x := api.Worker{Node: n}
		l = append(l, api.World{Coord: api.Coord{Worker: x}}, api.World{Workers: []api.Worker{x}}, api.World{Workers: []api.Worker{{}, x}}, api.World{Workers: []api.Worker{x, {}}}, api.World{Workers: []api.Worker{x, x}})
		l = append(l, api.World{Net: api.Net{Sent: uint64(n)}}, api.World{Net: api.Net{Parcels: []api.Parcel{{Num: uint64(n)}}}}, api.World{Net: api.Net{Parcels: []api.Parcel{{From: n}}}}, api.World{Net: api.Net{Parcels: []api.Parcel{{To: n}}}})
		l = append(l, api.World{Net: api.Net{Parcels: []api.Parcel{{To: n}, {}}}}, api.World{Net: api.Net{Parcels: []api.Parcel{{}, {To: n}}}}, api.World{Net: api.Net{Parcels: []api.Parcel{{Bytes: []byte{byte(n)}}}}}, api.World{Net: api.Net{Parcels: []api.Parcel{{Spoiled: true, To: n}}}})
	}
	for _, a := range l {
		for _, b := range l {
			isSame(t, same(a, b), a, b)
		}
	}
}

// P29.1: the same workers, entries and parcels, but in another order; some less, some more.
func TestSameOrder(t *testing.T) {
	w := midst()
	for k := range w.Workers {
		isSame(t, false, w, of(w, func(w *api.World) { w.Workers = slices.Delete(w.Workers, k, k+1) }))
		isSame(t, false, w, of(w, func(w *api.World) { w.Workers = slices.Insert(w.Workers, k, w.Workers[k]) }))
		isSame(t, false, w, of(w, func(w *api.World) { w.Workers[k], w.Workers[(k+1)%sites] = w.Workers[(k+1)%sites], w.Workers[k] }))
	}
	for k := range len(w.Net.Parcels) - 1 {
		isSame(t, false, w, of(w, func(w *api.World) { w.Net.Parcels = slices.Delete(w.Net.Parcels, k, k+1) }))
		isSame(t, false, w, of(w, func(w *api.World) { w.Net.Parcels = slices.Insert(w.Net.Parcels, k, w.Net.Parcels[k]) }))
		isSame(t, false, w, of(w, func(w *api.World) { slices.Reverse(w.Net.Parcels[k : k+2]) }))
		isSame(t, false, w, of(w, func(w *api.World) { l := w.Net.Parcels; l[k].Bytes, l[k+1].Bytes = l[k+1].Bytes, l[k].Bytes }))
	}
	isSame(t, false, w, of(w, func(w *api.World) { slices.Reverse(w.Coord.Entries) }))
	isSame(t, false, w, of(w, func(w *api.World) { w.Coord.Worker, w.Workers[0] = w.Workers[0], w.Coord.Worker }))
}

// P29.1, R3: nil and empty lists are one; what stands behind a list's end is nothing to it.
func TestSameOfNothing(t *testing.T) {
	empty := api.Worker{Catalog: api.Catalog{Tables: []api.Table{}}, Tables: [][]api.Row{}, Tasks: []api.Task{}}
	isSame(t, true, api.World{}, api.World{Coord: api.Coord{Worker: empty, Entries: []api.Entry{}}, Workers: []api.Worker{}, Net: api.Net{Parcels: []api.Parcel{}}})
	isSame(t, true, api.World{Workers: []api.Worker{{}}}, api.World{Workers: []api.Worker{empty}})
	isSame(t, true, api.World{Net: api.Net{Parcels: []api.Parcel{{}}}}, api.World{Net: api.Net{Parcels: []api.Parcel{{Bytes: []byte{}}}}})
	isSame(t, false, api.World{}, api.World{Workers: []api.Worker{{}}})
	for _, w := range append(worlds(), stuffed(), begun()) {
		isSame(t, true, w, roomy(w))
		isSame(t, true, roomy(w), roomy(roomy(w)))
	}
}
