package task_test

import (
	"reflect"
	"testing"

	"bowsprit/api"
	"bowsprit/task"
)

// variants are a thing with one thing changed each: each number, truth and text in it, each list shorter and longer.
func variants[T any](x T) (l []T) {
	for k := 0; ; k++ {
		y, left := copyOf(x), k
		if !changeAt(reflect.ValueOf(&y).Elem(), &left) {
			return l
		}
		l = append(l, y)
	}
}

// changeAt does the change of a number, if there are so many; else it counts down.
func changeAt(v reflect.Value, left *int) bool {
	switch v.Kind() {
	case reflect.Struct:
		for k := range v.NumField() {
			if changeAt(v.Field(k), left) {
				return true
			}
		}
		return false
	case reflect.Slice:
		for k := range v.Len() {
			if changeAt(v.Index(k), left) {
				return true
			}
		}
		if *left--; *left == -1 {
			v.Set(reflect.Append(v, reflect.Zero(v.Type().Elem())))
			return true
		}
		if v.Len() == 0 {
			return false
		}
		if *left--; *left == -1 {
			v.SetLen(v.Len() - 1)
			return true
		}
		return false
	}
	if *left--; *left == -1 {
		nudge(v)
		return true
	}
	return false
}

// nudge makes something else of a thing that is no list and no struct, as near to it as may be.
func nudge(v reflect.Value) {
	switch v.Kind() {
	case reflect.Int, reflect.Int64:
		v.SetInt(v.Int() ^ 1)
	case reflect.Uint32, reflect.Uint64:
		v.SetUint(v.Uint() ^ 1)
	case reflect.String:
		v.SetString(v.String() + "a")
	case reflect.Bool:
		v.SetBool(!v.Bool())
	}
}

// isSame holds whether two tasks are the same, whichever stands first.
func isSame(t *testing.T, want bool, a, b api.Task) {
	t.Helper()
	if task.Same(a, b) != want || task.Same(b, a) != want {
		t.Errorf("%v and %v: %v, %v, not %v", short(a), short(b), task.Same(a, b), task.Same(b, a), want)
	}
}

// stuffed is a task that may not be: all of its fields have something, and all fields of all that it has.
func stuffed() api.Task {
	node := api.LNode{Op: 1, A: 2, B: 3, Table: 4, Kinds: []int{5}, Left: true, Cond: bad(6, 7), Keys: []int{8}, Aggs: []api.Agg{agg(9, col(1))}, Items: []api.Expr{num(1), lit(text("a"))}, Order: []api.Ord{{Col: 10, Desc: true}, {Col: 1}}, Limit: 11}
	b := api.Batch{Rows: list("1 'a' / NULL"), End: true, Count: 12}
	s := api.Sender{Session: 13, Base: 14, Queue: []api.Batch{b, b}, Sent: 15, Limit: 16, Timer: 17, Ended: true}
	r := api.Receiver{Session: 18, Next: 19, Ahead: []api.Held{{Seq: 20, Batch: b}}, Buffer: []api.Batch{b}, Room: 21, Over: true}
	return copyOf(api.Task{
		Epoch: 22, Sites: 23, Number: 24, Node: 25, Frag: api.Frag{Nodes: []api.LNode{node, node}, At: 26, Way: 27, Cols: []int{28}}, State: 29,
		Ins: []api.In{{Frag: 30, From: 31, Receiver: r, Rows: list("1 / S5")}, {Frag: 30, From: 32}}, Outs: []api.Out{{To: 33, Sender: s, Rest: list("TRUE / 5 6")}, {}}, Rows: list("'a' / 'b'"), Err: 34,
	})
}

// P25.1: whatever is another field, of the task, of its fragment, of one In, one Out, one row: they are not the same; such as may not be are held against one another, too.
func TestSame(t *testing.T) {
	count := 0
	for _, x := range append(inStates(), stuffed(), api.Task{}) {
		isSame(t, true, x, copyOf(x))
		l := variants(x)
		for k, y := range l {
			isSame(t, false, x, y)
			isSame(t, true, y, copyOf(y))
			isSame(t, same(y, l[(k+1)%len(l)]), y, l[(k+1)%len(l)])
			count++
		}
	}
	if count < 900 {
		t.Error(count)
	}
	for _, x := range inStates() {
		for _, y := range inStates() {
			isSame(t, same(x, y), x, y)
		}
	}
}

// P25.1: each field alone, at numbers that might fall together in fewer bytes, or if two fields were put together.
func TestSameOfEachField(t *testing.T) {
	l := []api.Task{{}}
	for _, n := range []int{1, -1, 2, 256, 1 << 32, 1<<32 + 1, -256} {
		l = append(l, api.Task{Epoch: n}, api.Task{Sites: n}, api.Task{Number: n}, api.Task{Node: n}, api.Task{State: n}, api.Task{Err: api.Errno(n)}, api.Task{Frag: api.Frag{At: n}}, api.Task{Frag: api.Frag{Way: n}}, api.Task{Frag: api.Frag{Cols: []int{n}}})
		l = append(l, api.Task{Ins: []api.In{{Frag: n}}}, api.Task{Ins: []api.In{{From: n}}}, api.Task{Outs: []api.Out{{To: n}}}, api.Task{Outs: []api.Out{{Sender: api.Sender{Timer: n}}}}, api.Task{Ins: []api.In{{Receiver: api.Receiver{Room: n}}}})
	}
	for _, rows := range [][]api.Row{{{}}, {{}, {}}, list("1"), list("1 1"), list("1 / 1"), list("1 / 2"), list("2 / 1"), list("'1'"), list("NULL"), {{yes}}, {{under(1)}}, {{{Kind: 9}}}} {
		l = append(l, api.Task{Rows: rows}, api.Task{Ins: []api.In{{Rows: rows}}}, api.Task{Outs: []api.Out{{Rest: rows}}}, api.Task{Outs: []api.Out{{Sender: api.Sender{Queue: []api.Batch{{Rows: rows}}}}}})
	}
	l = append(l, api.Task{Ins: []api.In{{}}}, api.Task{Ins: []api.In{{}, {}}}, api.Task{Outs: []api.Out{{}}}, api.Task{Outs: []api.Out{{}, {}}}, api.Task{Frag: api.Frag{Nodes: []api.LNode{{}}}})
	for _, a := range l {
		for _, b := range l {
			isSame(t, same(a, b), a, b)
		}
	}
}

// P25.1: the same streams and rows, but in another order.
func TestSameOrder(t *testing.T) {
	for _, x := range inStates() {
		for k := range len(x.Ins) - 1 {
			isSame(t, false, x, changing(x, func(x *api.Task) { x.Ins[k], x.Ins[k+1] = x.Ins[k+1], x.Ins[k] }))
		}
		for k := range len(x.Outs) - 1 {
			isSame(t, false, x, changing(x, func(x *api.Task) { x.Outs[k], x.Outs[k+1] = x.Outs[k+1], x.Outs[k] }))
		}
	}
	isSame(t, false, rooted(api.TaskDone), changing(rooted(api.TaskDone), func(x *api.Task) { x.Rows[0], x.Rows[2] = x.Rows[2], x.Rows[0] }))
	x := sends()
	isSame(t, false, x, changing(x, func(x *api.Task) { x.Outs[0].Rest[0], x.Outs[0].Rest[1] = x.Outs[0].Rest[1], x.Outs[0].Rest[0] }))
	isSame(t, false, x, changing(x, func(x *api.Task) { x.Ins[0].Rows[0], x.Ins[0].Rows[1] = x.Ins[0].Rows[1], x.Ins[0].Rows[0] }))
}

// P25.1, R3: nil and empty lists are one; what stands behind a list's end is nothing to it.
func TestSameOfNothing(t *testing.T) {
	isSame(t, true, api.Task{}, api.Task{Frag: api.Frag{Nodes: []api.LNode{}, Cols: []int{}}, Ins: []api.In{}, Outs: []api.Out{}, Rows: []api.Row{}})
	isSame(t, true, api.Task{Ins: []api.In{{}}, Outs: []api.Out{{}}}, api.Task{Ins: []api.In{{Rows: []api.Row{}}}, Outs: []api.Out{{Rest: []api.Row{}, Sender: api.Sender{Queue: []api.Batch{}}}}})
	isSame(t, true, api.Task{Rows: []api.Row{nil}}, api.Task{Rows: []api.Row{{}}})
	for _, x := range append(inStates(), stuffed()) {
		isSame(t, true, x, roomy(x))
		isSame(t, true, roomy(x), roomy(roomy(x)))
	}
}
