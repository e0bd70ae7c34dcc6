package worker_test

import (
	"math"
	"reflect"
	"testing"

	"bowsprit/api"
	"bowsprit/worker"
)

// variant is a thing with the thing of a number changed, if there are so many: each number, truth and text in it, each list shorter and longer.
func variant[T any](x T, number int) (T, bool) {
	x = copyOf(x)
	is := changeAt(reflect.ValueOf(&x).Elem(), &number)
	return x, is
}

// things are how many there are that can be changed.
func things[T any](x T) int {
	left := math.MaxInt
	changeAt(reflect.ValueOf(&x).Elem(), &left)
	return math.MaxInt - left
}

// variants are a thing with each of these changed.
func variants[T any](x T) (l []T) {
	for k := range things(x) {
		y, _ := variant(x, k)
		l = append(l, y)
	}
	return l
}

// changeAt does the change of a number, if there are so many; else it counts down.
func changeAt(v reflect.Value, left *int) bool {
	switch v.Kind() {
	case reflect.Struct:
		for k := range v.NumField() {
			if changeAt(v.Field(k), left) {
				return true
			}
		}
		return false
	case reflect.Slice:
		for k := range v.Len() {
			if changeAt(v.Index(k), left) {
				return true
			}
		}
		if *left--; *left == -1 {
			v.Set(reflect.Append(v, reflect.Zero(v.Type().Elem())))
			return true
		}
		if v.Len() == 0 {
			return false
		}
		if *left--; *left == -1 {
			v.SetLen(v.Len() - 1)
			return true
		}
		return false
	}
	if *left--; *left == -1 {
		nudge(v)
		return true
	}
	return false
}

// nudge makes something else of a thing that is no list and no struct, as near to it as may be.
func nudge(v reflect.Value) {
	switch v.Kind() {
	case reflect.Int, reflect.Int64:
		v.SetInt(v.Int() ^ 1)
	case reflect.Uint32, reflect.Uint64:
		v.SetUint(v.Uint() ^ 1)
	case reflect.String:
		v.SetString(v.String() + "a")
	case reflect.Bool:
		v.SetBool(!v.Bool())
	}
}

// isSame holds whether two workers are the same, whichever stands first.
func isSame(t *testing.T, want bool, a, b api.Worker) {
	t.Helper()
	if worker.Same(a, b) != want || worker.Same(b, a) != want {
		t.Errorf("%v and %v: %v, %v, not %v", short(a), short(b), worker.Same(a, b), worker.Same(b, a), want)
	}
}

// stuffed is a worker that may not be: all of its fields have something, and all fields of all that it has.
func stuffed() api.Worker {
	node := api.LNode{Op: 1, A: 2, B: 3, Table: 4, Kinds: []int{5}, Left: true, Cond: bad(6, 7), Keys: []int{8}, Aggs: []api.Agg{agg(9, col(1))}, Items: []api.Expr{num(1)}, Order: []api.Ord{{Col: 10, Desc: true}}, Limit: 11}
	b := api.Batch{Rows: list("1 'a' / NULL"), End: true, Count: 12}
	s := api.Sender{Session: 13, Base: 14, Queue: []api.Batch{b}, Sent: 15, Limit: 16, Timer: 17, Ended: true}
	r := api.Receiver{Session: 18, Next: 19, Ahead: []api.Held{{Seq: 20, Batch: b}}, Buffer: []api.Batch{b}, Room: 21, Over: true}
	x := api.Task{
		Epoch: 22, Sites: 23, Number: 24, Node: 25, Frag: api.Frag{Nodes: []api.LNode{node}, At: 26, Way: 27, Cols: []int{28}}, State: 29,
		Ins: []api.In{{Frag: 30, From: 31, Receiver: r, Rows: list("1 / S5")}}, Outs: []api.Out{{To: 33, Sender: s, Rest: list("TRUE / 5 6")}}, Rows: list("'a' / 'b'"), Err: 34,
	}
	return copyOf(api.Worker{
		Node: 40, Sites: 41, Catalog: cat(tab("", "a int b text", 42, 43), tab("z", "")), Tables: [][]api.Row{list("1 'a' / NULL / 1"), nil, list("S5 / TRUE")},
		Tasks: []api.Task{x, {Number: 44}}, Has: 45, Gone: 46,
	})
}

// P26.1: whatever is another field, of the worker, of one table, row or value, of one task and all that it has: they are not the same; such as may not be are held against one another, too.
func TestSame(t *testing.T) {
	count := 0
	for _, w := range []api.Worker{full(0), full(3), plain(2), stuffed(), {}} {
		isSame(t, true, w, copyOf(w))
		l := variants(w)
		for k, v := range l {
			isSame(t, false, w, v)
			isSame(t, true, v, copyOf(v))
			isSame(t, same(v, l[(k+1)%len(l)]), v, l[(k+1)%len(l)])
			count++
		}
	}
	if count < 2000 {
		t.Error(count)
	}
	for a := range sites + 1 {
		for b := range sites + 1 {
			isSame(t, a == b, full(a), full(b))
			isSame(t, a == b, plain(a), plain(b))
			isSame(t, false, full(a), plain(b))
		}
	}
}

// P26.1: each field alone, at numbers that might fall together in fewer bytes, or if two fields were put together.
func TestSameOfEachField(t *testing.T) {
	l := []api.Worker{{}}
	for _, n := range []int{1, -1, 2, 256, 1 << 32, 1<<32 + 1, -256} {
		l = append(l, api.Worker{Node: n}, api.Worker{Sites: n}, api.Worker{Has: uint32(n)}, api.Worker{Gone: uint32(n)}, api.Worker{Tasks: []api.Task{{Epoch: n}}}, api.Worker{Tasks: []api.Task{{Number: n}}})
		l = append(l, api.Worker{Catalog: cat(api.Table{Keys: []int{n}})}, api.Worker{Catalog: cat(api.Table{Columns: []api.Column{{Kind: n}}})})
	}
	for _, name := range []string{"a", "b", "aa", " "} {
		l = append(l, api.Worker{Catalog: cat(api.Table{Name: name})}, api.Worker{Catalog: cat(api.Table{Columns: []api.Column{{Name: name}}})})
	}
	for _, rows := range [][]api.Row{nil, {{}}, {{}, {}}, list("1"), list("1 1"), list("1 / 1"), list("1 / 2"), list("2 / 1"), list("'1'"), list("NULL"), {{yes}}, {{under(1)}}, {{{Kind: 9}}}} {
		l = append(l, api.Worker{Tables: [][]api.Row{rows}}, api.Worker{Tables: [][]api.Row{nil, rows}}, api.Worker{Tables: [][]api.Row{rows, nil}}, api.Worker{Tables: [][]api.Row{rows, rows}}, api.Worker{Tasks: []api.Task{{Rows: rows}}})
	}
	l = append(l, api.Worker{Tasks: []api.Task{{}}}, api.Worker{Tasks: []api.Task{{}, {}}}, api.Worker{Catalog: cat(api.Table{})}, api.Worker{Catalog: cat(api.Table{}, api.Table{})})
	for _, a := range l {
		for _, b := range l {
			isSame(t, same(a, b), a, b)
		}
	}
}

// P26.1: the same tasks, tables and rows, but in another order.
func TestSameOrder(t *testing.T) {
	w := full(1)
	for k := range len(w.Tasks) - 1 {
		isSame(t, false, w, changing(w, func(w *api.Worker) { w.Tasks[k], w.Tasks[k+1] = w.Tasks[k+1], w.Tasks[k] }))
	}
	isSame(t, false, w, changing(w, func(w *api.Worker) { w.Tables[0], w.Tables[1] = w.Tables[1], w.Tables[0] }))
	isSame(t, false, w, changing(w, func(w *api.Worker) { w.Tables[1][0], w.Tables[1][1] = w.Tables[1][1], w.Tables[1][0] }))
	isSame(t, false, w, changing(w, func(w *api.Worker) {
		w.Catalog.Tables[0], w.Catalog.Tables[1] = w.Catalog.Tables[1], w.Catalog.Tables[0]
	}))
	isSame(t, true, w, changing(w, func(w *api.Worker) { w.Tables[1][0], w.Tables[1][3] = w.Tables[1][3], w.Tables[1][0] })) // both are 3
	isSame(t, false, w, changing(w, func(w *api.Worker) { w.Has, w.Gone = w.Gone, w.Has }))
}

// P26.1, R3: nil and empty lists are one; what stands behind a list's end is nothing to it.
func TestSameOfNothing(t *testing.T) {
	isSame(t, true, api.Worker{}, api.Worker{Catalog: api.Catalog{Tables: []api.Table{}}, Tables: [][]api.Row{}, Tasks: []api.Task{}})
	isSame(t, true, api.Worker{Tables: [][]api.Row{nil}}, api.Worker{Tables: [][]api.Row{{}}})
	isSame(t, true, api.Worker{Tables: [][]api.Row{{nil}}}, api.Worker{Tables: [][]api.Row{{{}}}})
	isSame(t, true, api.Worker{Catalog: cat(api.Table{})}, api.Worker{Catalog: cat(api.Table{Columns: []api.Column{}, Keys: []int{}})})
	isSame(t, false, api.Worker{Tables: [][]api.Row{nil}}, api.Worker{})
	for _, w := range []api.Worker{full(0), full(4), plain(1), stuffed()} {
		isSame(t, true, w, roomy(w))
		isSame(t, true, roomy(w), roomy(roomy(w)))
	}
}
