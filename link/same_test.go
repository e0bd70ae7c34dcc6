package link_test

import (
	"reflect"
	"testing"

	"bowsprit/api"
	"bowsprit/link"
)

// variants are a thing with one thing changed each: each number, truth and text in it, each list shorter and longer.
func variants[T any](x T) (l []T) {
	for k := 0; ; k++ {
		y, left := copyOf(x), k
		if !changeAt(reflect.ValueOf(&y).Elem(), &left) {
			return l
		}
		l = append(l, y)
	}
}

// changeAt does the change of a number, if there are so many; else it counts down.
func changeAt(v reflect.Value, left *int) bool {
	switch v.Kind() {
	case reflect.Struct:
		for k := range v.NumField() {
			if changeAt(v.Field(k), left) {
				return true
			}
		}
		return false
	case reflect.Slice:
		for k := range v.Len() {
			if changeAt(v.Index(k), left) {
				return true
			}
		}
		if *left--; *left == -1 {
			v.Set(reflect.Append(v, reflect.Zero(v.Type().Elem())))
			return true
		}
		if v.Len() == 0 {
			return false
		}
		if *left--; *left == -1 {
			v.SetLen(v.Len() - 1)
			return true
		}
		return false
	}
	if *left--; *left == -1 {
		fill(v)
		return true
	}
	return false
}

// senders and receivers have something of all that there may be.
func senders() []api.Sender {
	full := sends(4, 5)
	full.Queue = append(full.Queue, end(8))
	full.Queue[1] = rows("1 'a' NULL / . / 5")
	full.Queue[2].Rows[0][0] = api.Value{Kind: api.VSum, N: 1, U: 2}
	full.Sent, full.Limit, full.Timer, full.Ended = 6, 9, 2, true
	return []api.Sender{full, sends(1, 0), changing(sends(3, 2), func(s *api.Sender) { s.Limit, s.Sent = 5, 4 })}
}

func receivers() []api.Receiver {
	full := hears(8, 6, 3, 7, 9)
	full.Ahead = append(full.Ahead, api.Held{Seq: 10, Batch: end(9)})
	full.Ahead[0].Batch = rows("1 'a' NULL / . / 5")
	full.Buffer[1].Rows[0][0] = api.Value{Kind: api.VSum, N: 1, U: 2}
	return []api.Receiver{full, hears(3, 1, 0), changing(hears(2, 5, 0), func(r *api.Receiver) { r.Over = true }), changing(hears(4, 5, 2), func(r *api.Receiver) { r.Buffer[1] = end(3) })}
}

// isSame holds whether two are the same, whichever stands first.
func isSame[T any](t *testing.T, same func(a, b T) bool, want bool, a, b T) {
	t.Helper()
	if same(a, b) != want || same(b, a) != want {
		t.Errorf("%v and %v: %v, %v, not %v", a, b, same(a, b), same(b, a), want)
	}
}

// allDiffer holds each against each: none is the same as another one.
func allDiffer[T any](t *testing.T, are func(a, b T) bool, l []T) {
	t.Helper()
	for _, a := range l {
		for _, b := range l {
			isSame(t, are, same(a, b), a, b)
		}
	}
}

// P22.1: whatever is another field, row or value, they are not the same; such as may not be are held against one another, too.
func TestSame(t *testing.T) {
	count := 0
	for _, s := range senders() {
		isSender(t, true, s)
		isSame(t, link.SameSender, true, s, copyOf(s))
		for _, x := range variants(s) {
			isSame(t, link.SameSender, false, s, x)
			isSame(t, link.SameSender, true, x, copyOf(x))
			count++
		}
	}
	for _, r := range receivers() {
		isReceiver(t, true, r)
		isSame(t, link.SameReceiver, true, r, copyOf(r))
		for _, x := range variants(r) {
			isSame(t, link.SameReceiver, false, r, x)
			isSame(t, link.SameReceiver, true, x, copyOf(x))
			count++
		}
	}
	if count < 200 {
		t.Error(count)
	}
	allDiffer(t, link.SameSender, append(variants(senders()[0]), senders()...))
	allDiffer(t, link.SameReceiver, append(variants(receivers()[0]), receivers()...))
}

// P22.1: the same batches and rows, but in another order, or laid together in another way.
func TestSameOrder(t *testing.T) {
	queues := [][]api.Batch{
		{}, {rows("1 / 2")}, {rows("2 / 1")}, {rows("1"), rows("2")}, {rows("2"), rows("1")}, {rows("1 2")}, {rows("1 / 2"), end(1)}, {end(1), rows("1 / 2")}, {rows("1 / 2 / 2")}, {rows("1 / 2"), {}}, {{}}, {{}, {}},
		{rows(".")}, {rows(". / .")}, {rows("NULL")}, {end(0)}, {end(1)}, {{End: true, Count: 1, Rows: list("1")}},
	}
	for k, a := range queues {
		for m, b := range queues {
			isSame(t, link.SameSender, k == m, api.Sender{Queue: a}, api.Sender{Queue: b})
			isSame(t, link.SameReceiver, k == m, api.Receiver{Buffer: a}, api.Receiver{Buffer: b})
			x, y := api.Receiver{}, api.Receiver{}
			for k, batch := range a {
				x.Ahead = append(x.Ahead, api.Held{Seq: uint64(k), Batch: batch})
			}
			for k, batch := range b {
				y.Ahead = append(y.Ahead, api.Held{Seq: uint64(k), Batch: batch})
			}
			isSame(t, link.SameReceiver, k == m, x, y)
			if len(a) > 0 {
				isSame(t, link.SameReceiver, false, x, api.Receiver{Buffer: a})
			}
		}
	}
	isSame(t, link.SameReceiver, false, api.Receiver{Ahead: []api.Held{{Seq: 1}, {Seq: 2}}}, api.Receiver{Ahead: []api.Held{{Seq: 2}, {Seq: 1}}})
}

// P22.1, R3: nil and empty lists are one; the zero ones are the same.
func TestSameOfNothing(t *testing.T) {
	isSame(t, link.SameSender, true, api.Sender{}, api.Sender{Queue: []api.Batch{}})
	isSame(t, link.SameSender, true, api.Sender{Queue: []api.Batch{{}}}, api.Sender{Queue: []api.Batch{{Rows: []api.Row{}}}})
	isSame(t, link.SameSender, true, api.Sender{Queue: []api.Batch{{Rows: []api.Row{nil}}}}, api.Sender{Queue: []api.Batch{{Rows: []api.Row{{}}}}})
	isSame(t, link.SameReceiver, true, api.Receiver{}, api.Receiver{Buffer: []api.Batch{}, Ahead: []api.Held{}})
	isSame(t, link.SameReceiver, true, api.Receiver{Ahead: []api.Held{{}}}, api.Receiver{Ahead: []api.Held{{Batch: api.Batch{Rows: []api.Row{}}}}})
}
