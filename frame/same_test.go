package frame_test

import (
	"reflect"
	"testing"

	"bowsprit/api"
	"bowsprit/frame"
)

// variants are a thing with one thing changed each: each number, truth and text in it, each list shorter and longer.
func variants[T any](x T) (l []T) {
	for k := 0; ; k++ {
		y, left := copyOf(x), k
		if !changeAt(reflect.ValueOf(&y).Elem(), &left) {
			return l
		}
		l = append(l, y)
	}
}

// changeAt does the change of a number, if there are so many; else it counts down.
func changeAt(v reflect.Value, left *int) bool {
	switch v.Kind() {
	case reflect.Struct:
		for k := range v.NumField() {
			if changeAt(v.Field(k), left) {
				return true
			}
		}
		return false
	case reflect.Slice:
		for k := range v.Len() {
			if changeAt(v.Index(k), left) {
				return true
			}
		}
		if *left--; *left == -1 {
			v.Set(reflect.Append(v, reflect.Zero(v.Type().Elem())))
			return true
		}
		if v.Len() == 0 {
			return false
		}
		if *left--; *left == -1 {
			v.SetLen(v.Len() - 1)
			return true
		}
		return false
	}
	if *left--; *left == -1 {
		nudge(v)
		return true
	}
	return false
}

// nudge makes something else of a thing that is no list and no struct, as near to it as may be.
func nudge(v reflect.Value) {
	switch v.Kind() {
	case reflect.Int, reflect.Int64:
		v.SetInt(v.Int() ^ 1)
	case reflect.Uint32, reflect.Uint64:
		v.SetUint(v.Uint() ^ 1)
	case reflect.String:
		v.SetString(v.String() + "a")
	case reflect.Bool:
		v.SetBool(!v.Bool())
	}
}

// isSame holds whether two messages are the same, whichever stands first.
func isSame(t *testing.T, want bool, a, b api.Msg) {
	t.Helper()
	if frame.Same(a, b) != want || frame.Same(b, a) != want {
		t.Errorf("%v and %v: %v, %v, not %v", a, b, frame.Same(a, b), frame.Same(b, a), want)
	}
}

// stuffed is a message that may not be: all of its fields have something.
func stuffed() api.Msg {
	m := several()[0]
	m.Frag, m.Err, m.Packet = 3, api.ErrOver, several()[1].Packet
	m.Packet.Limit, m.Packet.Batch.End, m.Packet.Batch.Count = 9, true, 4
	n := &m.Plan.Frags[0].Nodes[0]
	n.Left, n.Cond, n.Keys, n.Aggs, n.Items, n.Order, n.Limit = true, col(0), []int{1}, []api.Agg{agg(1, col(0))}, []api.Expr{num(1)}, []api.Ord{{Col: 1}}, 4
	return m
}

// P23.1: whatever is another field, row or value, they are not the same; such as may not be are held against one another, too.
func TestSame(t *testing.T) {
	count := 0
	for _, m := range append(append(eachKind(), several()...), stuffed(), api.Msg{}) {
		isSame(t, true, m, copyOf(m))
		l := variants(m)
		for k, x := range l {
			isSame(t, false, m, x)
			isSame(t, true, x, copyOf(x))
			isSame(t, same(x, l[(k+1)%len(l)]), x, l[(k+1)%len(l)])
			count++
		}
	}
	if count < 1000 {
		t.Error(count)
	}
}

// P23.1: each field alone, at numbers that might fall together in fewer bytes, or if two fields were put together.
func TestSameOfEachField(t *testing.T) {
	l := []api.Msg{{}}
	for _, n := range []int{1, -1, 2, 256, 1 << 32, 1<<32 + 1, -256} {
		l = append(l, api.Msg{Kind: n}, api.Msg{From: n}, api.Msg{To: n}, api.Msg{Epoch: n}, api.Msg{Frag: n}, api.Msg{Sites: n}, api.Msg{Err: api.Errno(n)}, api.Msg{Packet: api.Packet{Kind: n}})
		l = append(l, api.Msg{Packet: api.Packet{Session: uint32(n) | 3}}, api.Msg{Packet: api.Packet{Seq: uint64(n)}}, api.Msg{Packet: api.Packet{Limit: uint64(n)}}, api.Msg{Packet: api.Packet{Batch: api.Batch{Count: uint64(n)}}})
	}
	l = append(l, api.Msg{Packet: api.Packet{Batch: api.Batch{End: true}}}, api.Msg{Plan: planOf(api.Frag{})}, api.Msg{Plan: planOf(api.Frag{}, api.Frag{})}, api.Msg{Plan: planOf(api.Frag{At: 1})}, api.Msg{Plan: planOf(api.Frag{Way: 1})}, api.Msg{Plan: planOf(api.Frag{Cols: []int{0}})})
	for _, rows := range [][]api.Row{list("."), list(". / ."), list("1"), list("1 1"), list("1 / 1"), list("1 / 2"), list("2 / 1"), list("'1"), list("NULL"), list("NULL NULL"), {{yes}}, {{sumOf(0, 1)}}, {{{Kind: 9}}}, {{{Kind: ki, U: 1}}}} {
		l = append(l, api.Msg{Packet: api.Packet{Batch: api.Batch{Rows: rows}}})
	}
	for _, a := range l {
		for _, b := range l {
			isSame(t, same(a, b), a, b)
		}
	}
}

// P23.1, R3: nil and empty lists are one.
func TestSameOfNothing(t *testing.T) {
	isSame(t, true, api.Msg{}, api.Msg{Plan: api.Plan{Frags: []api.Frag{}}, Packet: api.Packet{Batch: api.Batch{Rows: []api.Row{}}}})
	isSame(t, true, api.Msg{Plan: planOf(api.Frag{})}, api.Msg{Plan: planOf(api.Frag{Nodes: []api.LNode{}, Cols: []int{}})})
	isSame(t, true, api.Msg{Packet: api.Packet{Batch: api.Batch{Rows: []api.Row{nil}}}}, api.Msg{Packet: api.Packet{Batch: api.Batch{Rows: []api.Row{{}}}}})
}
