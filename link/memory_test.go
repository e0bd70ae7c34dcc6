package link_test

import (
	"reflect"
	"slices"
	"testing"

	"bowsprit/api"
	"bowsprit/link"
)

// eachList goes to all lists that a thing has, those within lists too.
func eachList(v reflect.Value, visit func(reflect.Value)) {
	switch v.Kind() {
	case reflect.Struct:
		for k := range v.NumField() {
			eachList(v.Field(k), visit)
		}
	case reflect.Slice:
		for k := range v.Len() {
			eachList(v.Index(k), visit)
		}
		visit(v)
	}
}

// fill changes a thing, whatever is in it; of a list it makes another one.
func fill(v reflect.Value) {
	switch v.Kind() {
	case reflect.Slice:
		other := reflect.MakeSlice(v.Type(), v.Len()+1, v.Len()+1)
		fill(other.Index(v.Len()))
		v.Set(other)
	case reflect.Struct:
		for k := range v.NumField() {
			fill(v.Field(k))
		}
	case reflect.Int, reflect.Int64:
		v.SetInt(v.Int() ^ 0x55)
	case reflect.Uint32, reflect.Uint64:
		v.SetUint(v.Uint() ^ 0x55)
	case reflect.String:
		v.SetString(v.String() + "spoiled")
	case reflect.Bool:
		v.SetBool(!v.Bool())
	}
}

// roomy is a thing with memory of its own: each list has room behind its end, and in that something.
func roomy[T any](x T) T {
	x = copyOf(x)
	eachList(reflect.ValueOf(&x).Elem(), func(v reflect.Value) {
		room := reflect.MakeSlice(v.Type(), v.Len()+3, v.Len()+3)
		reflect.Copy(room, v)
		for k := v.Len(); k < room.Len(); k++ {
			fill(room.Index(k))
		}
		v.Set(room.Slice(0, v.Len()))
	})
	return x
}

// whole is a thing whose lists have what stands in the room behind their ends, too.
func whole[T any](x T) T {
	x = copyWithRoom(x)
	eachList(reflect.ValueOf(&x).Elem(), func(v reflect.Value) { v.SetLen(v.Cap()) })
	return x
}

// copyWithRoom is a copy of a thing, with copies of the room behind its lists' ends.
func copyWithRoom[T any](x T) T {
	var deep func(v reflect.Value)
	deep = func(v reflect.Value) {
		switch v.Kind() {
		case reflect.Struct:
			for k := range v.NumField() {
				deep(v.Field(k))
			}
		case reflect.Slice:
			l := reflect.MakeSlice(v.Type(), v.Cap(), v.Cap())
			reflect.Copy(l, v.Slice(0, v.Cap()))
			v.Set(l.Slice(0, v.Len()))
			for k := range v.Len() {
				deep(v.Index(k))
			}
		}
	}
	deep(reflect.ValueOf(&x).Elem())
	return x
}

// spoil changes all that a thing's lists have, and the room behind them.
func spoil[T any](x T) {
	eachList(reflect.ValueOf(x), func(v reflect.Value) {
		v = v.Slice(0, v.Cap())
		for k := range v.Len() {
			fill(v.Index(k))
		}
	})
}

// given is what calls are handed.
type given struct {
	Sender, Sender2     api.Sender
	Receiver, Receiver2 api.Receiver
	Packet              api.Packet
	Rows                []api.Row
}

// answer is what a call answers, as far as it has it.
type answer struct {
	Sender   api.Sender
	Receiver api.Receiver
	Packets  []api.Packet
	Batch    api.Batch
	Is       bool
	Err      api.Errno
}

// askers are all calls that are handed anything in lists.
func askers() []func(g given) answer {
	return []func(g given) answer{
		func(g given) answer { return answer{Err: link.CheckPacket(g.Packet)} },
		func(g given) answer { return answer{Err: link.CheckSender(g.Sender)} },
		func(g given) answer { return answer{Err: link.CheckReceiver(g.Receiver)} },
		func(g given) answer { return answer{Is: link.SameSender(g.Sender, g.Sender2)} },
		func(g given) answer { return answer{Is: link.SameReceiver(g.Receiver, g.Receiver2)} },
	}
}

// calls are all these, and those that answer an end of a link, or what that says.
func calls() []func(g given) answer {
	return append(askers(),
		func(g given) answer {
			s, e := link.Put(g.Sender, g.Rows)
			return answer{Sender: s, Err: e}
		},
		func(g given) answer {
			s, e := link.Close(g.Sender)
			return answer{Sender: s, Err: e}
		},
		func(g given) answer {
			s, l, e := link.Tick(g.Sender)
			return answer{Sender: s, Packets: l, Err: e}
		},
		func(g given) answer {
			s, e := link.Acked(g.Sender, g.Packet)
			return answer{Sender: s, Err: e}
		},
		func(g given) answer {
			r, e := link.Hear(g.Receiver, g.Packet)
			return answer{Receiver: r, Err: e}
		},
		func(g given) answer {
			p, e := link.Ack(g.Receiver)
			return answer{Packets: []api.Packet{p}, Err: e}
		},
		func(g given) answer {
			r, b, e := link.Take(g.Receiver)
			return answer{Receiver: r, Batch: b, Err: e}
		})
}

// kept is what is handed in while its memory is watched: such as may be, and such as may not.
func kept() (l []given) {
	more := append(senders(), sends(4, 7), changing(sends(4, 8), func(s *api.Sender) { s.Sent, s.Timer = 6, 2 }), changing(sends(4, 3), func(s *api.Sender) { s.Queue[1].Rows = nil }), api.Sender{})
	others := append(receivers(), hears(8, 5, 4, 6, 8), hears(4, 5, 4), changing(hears(8, 5, 4), func(r *api.Receiver) { r.Buffer[1].Rows = nil }), api.Receiver{})
	packets := []api.Packet{data(5, rows("1 'a' / 2")), data(7, rows("7 / 8")), data(9, end(8)), ack(5, 9), ack(7, 30), ack(1, 2), data(5, api.Batch{}), {}}
	for k, s := range more {
		for m, r := range others {
			for n, p := range packets {
				same := (k+m+n)%2 == 0
				g := given{s, copyOf(s), r, copyOf(r), p, list("1 'a' / 2 NULL / 3")[:n%4]}
				if !same {
					g.Sender2, g.Receiver2 = more[(k+1)%len(more)], others[(m+1)%len(others)]
				}
				l = append(l, g)
			}
		}
	}
	return l
}

// R3: what is handed in stays as it was, the room behind a list's end too, also when what is answered is spoiled; what is answered is not spoiled with what was handed in.
func TestMemory(t *testing.T) {
	answered := 0
	for _, was := range kept() {
		for k, call := range calls() {
			in := roomy(was)
			before := whole(in)
			got := call(in)
			want := copyOf(got)
			spoil(got)
			if !reflect.DeepEqual(whole(in), before) {
				t.Errorf("call %v of %v: it is %v", k, was, in)
			}
			got = call(in)
			spoil(in)
			if !same(got, want) {
				t.Errorf("call %v of %v: %v, not %v", k, was, got, want)
			}
			if want.Err == api.OK && k >= len(askers()) {
				answered++
			}
		}
	}
	if answered < 1500 {
		t.Error(answered)
	}
}

// R3: no two lists of one answer share memory, those of what is sent and of the sender's Queue neither.
func TestMemoryWithin(t *testing.T) {
	for _, was := range kept() {
		for k, call := range calls() {
			got, seen := call(was), map[uintptr]bool{}
			eachList(reflect.ValueOf(&got).Elem(), func(v reflect.Value) {
				room := v.Slice(0, v.Cap())
				for at := range room.Len() {
					place := room.Index(at).Addr().Pointer()
					if seen[place] {
						t.Errorf("call %v of %v: lists of %v share memory", k, was, got)
					}
					seen[place] = true
				}
			})
		}
	}
}

// R3, R5: nothing is kept: what is done to an answer, or to what was handed in, or asked in between, reaches no later answer.
func TestNothingIsKept(t *testing.T) {
	all := kept()
	for k, was := range all {
		for m, call := range calls() {
			want := copyOf(call(was))
			in := roomy(was)
			got := call(in)
			spoil(got)
			spoil(in)
			for _, other := range calls() {
				other(all[(k*7+m)%len(all)])
			}
			if again := call(was); !same(again, want) {
				t.Errorf("call %v of %v: %v, not %v", m, was, again, want)
			}
		}
	}
}

// R3: nil and empty lists are one, in whatever is handed in.
func TestNilAndEmpty(t *testing.T) {
	for _, g := range kept() {
		empty := copyOf(g)
		eachList(reflect.ValueOf(&empty).Elem(), func(v reflect.Value) {
			if v.Len() == 0 {
				v.Set(reflect.MakeSlice(v.Type(), 0, 2))
			}
		})
		for k, call := range calls() {
			if got, want := call(empty), call(copyOf(g)); !same(got, want) {
				t.Errorf("call %v of %v: %v, not %v", k, g, got, want)
			}
		}
	}
}

// R3: of several answers of one thing each has its own memory.
func TestAnswersApart(t *testing.T) {
	s := changing(sends(4, 5), func(s *api.Sender) { s.Limit = 6 })
	first := puts(t, s, list("1"), with(s, rows("1")))
	second := puts(t, s, list("2"), with(s, rows("2")))
	third := closes(t, s, with(s, end(8)))
	for _, x := range []api.Sender{first, second, third} {
		isSender(t, true, x)
	}
	if !slices.Equal(first.Queue[5].Rows[0], list("1")[0]) || !slices.Equal(second.Queue[5].Rows[0], list("2")[0]) || !third.Queue[5].End {
		t.Error(first, second, third)
	}
	r := hears(8, 5, 2, 8)
	a := hearing(t, r, data(5, rows("1")), hearByRule(r, data(5, rows("1"))))
	b := hearing(t, r, data(5, rows("2")), hearByRule(r, data(5, rows("2"))))
	c := hearing(t, r, data(7, rows("3")), hearByRule(r, data(7, rows("3"))))
	if !same(a.Buffer[2], rows("1")) || !same(b.Buffer[2], rows("2")) || !same(c.Ahead[0].Batch, rows("3")) {
		t.Error(a, b, c)
	}
}
