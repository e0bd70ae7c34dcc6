package frame_test

import (
	"bytes"
	"reflect"
	"slices"
	"testing"

	"bowsprit/api"
	"bowsprit/frame"
)

// eachList goes to all lists that a thing has, those within lists too.
func eachList(v reflect.Value, visit func(reflect.Value)) {
	switch v.Kind() {
	case reflect.Struct:
		for k := range v.NumField() {
			eachList(v.Field(k), visit)
		}
	case reflect.Slice:
		for k := range v.Len() {
			eachList(v.Index(k), visit)
		}
		visit(v)
	}
}

// fill changes a thing, whatever is in it; of a list it makes another one.
func fill(v reflect.Value) {
	switch v.Kind() {
	case reflect.Slice:
		other := reflect.MakeSlice(v.Type(), v.Len()+1, v.Len()+1)
		fill(other.Index(v.Len()))
		v.Set(other)
	case reflect.Struct:
		for k := range v.NumField() {
			fill(v.Field(k))
		}
	case reflect.Int, reflect.Int64:
		v.SetInt(v.Int() ^ 0x55)
	case reflect.Uint8, reflect.Uint32, reflect.Uint64:
		v.SetUint(v.Uint() ^ 0x55)
	case reflect.String:
		v.SetString(v.String() + "spoiled")
	case reflect.Bool:
		v.SetBool(!v.Bool())
	}
}

// roomy is a thing with memory of its own: each list has room behind its end, and in that something.
func roomy[T any](x T) T {
	x = copyOf(x)
	eachList(reflect.ValueOf(&x).Elem(), func(v reflect.Value) {
		room := reflect.MakeSlice(v.Type(), v.Len()+3, v.Len()+3)
		reflect.Copy(room, v)
		for k := v.Len(); k < room.Len(); k++ {
			fill(room.Index(k))
		}
		v.Set(room.Slice(0, v.Len()))
	})
	return x
}

// whole is a thing whose lists have what stands in the room behind their ends, too.
func whole[T any](x T) T {
	x = copyWithRoom(x)
	eachList(reflect.ValueOf(&x).Elem(), func(v reflect.Value) { v.SetLen(v.Cap()) })
	return x
}

// copyWithRoom is a copy of a thing, with copies of the room behind its lists' ends.
func copyWithRoom[T any](x T) T {
	var deep func(v reflect.Value)
	deep = func(v reflect.Value) {
		switch v.Kind() {
		case reflect.Struct:
			for k := range v.NumField() {
				deep(v.Field(k))
			}
		case reflect.Slice:
			l := reflect.MakeSlice(v.Type(), v.Cap(), v.Cap())
			reflect.Copy(l, v.Slice(0, v.Cap()))
			v.Set(l.Slice(0, v.Len()))
			for k := range v.Len() {
				deep(v.Index(k))
			}
		}
	}
	deep(reflect.ValueOf(&x).Elem())
	return x
}

// spoil changes all that a thing's lists have, and the room behind them.
func spoil[T any](x T) {
	eachList(reflect.ValueOf(x), func(v reflect.Value) {
		v = v.Slice(0, v.Cap())
		for k := range v.Len() {
			fill(v.Index(k))
		}
	})
}

// given is what calls are handed: messages, and bytes of one, and of a plan.
type given struct {
	Msg, Other   api.Msg
	Bytes, Plain []byte
}

// answer is what a call answers, as far as it has it.
type answer struct {
	Msg   api.Msg
	Plan  api.Plan
	Bytes []byte
	Same  bool
	Err   api.Errno
}

// calls are all calls.
func calls() []func(g given) answer {
	return []func(g given) answer{
		func(g given) answer { return answer{Err: frame.Check(g.Msg)} },
		func(g given) answer { return answer{Same: frame.Same(g.Msg, g.Other)} },
		func(g given) answer {
			b, e := frame.Encode(g.Msg)
			return answer{Bytes: b, Err: e}
		},
		func(g given) answer {
			m, e := frame.Decode(g.Bytes)
			return answer{Msg: m, Err: e}
		},
		func(g given) answer {
			b, e := frame.EncodePlan(g.Msg.Plan)
			return answer{Bytes: b, Err: e}
		},
		func(g given) answer {
			p, e := frame.DecodePlan(g.Plain)
			return answer{Plan: p, Err: e}
		},
	}
}

// kept is what is handed in while its memory is watched: such as may be, and such as may not.
func kept() (l []given) {
	m := newMaker(237)
	msgs := append(append(eachKind(), several()...), stuffed(), api.Msg{}, planMsg(1, api.Plan{}), planMsg(1, one(steps(scan(0, ki), distinct(), union()))), dataMsg(4, ack(1, 1, 1)), dataMsg(4, ofRows(api.Row{{Kind: 9}})))
	for kind := api.MsgPlan; kind <= api.MsgGone; kind++ {
		msgs = append(msgs, m.msg(kind), m.msg(kind))
	}
	for k, x := range msgs {
		other := []api.Msg{copyOf(x), msgs[(k+1)%len(msgs)]}[k%2]
		whole := given{x, other, seal(layMsg(x)), layPlan(x.Plan)}
		cut := whole
		cut.Bytes, cut.Plain = seal(layMsg(x)[:3]), cut.Plain[:len(cut.Plain)*2/3]
		l = append(l, whole, cut)
	}
	return l
}

// R3: what is handed in stays as it was, the room behind a list's end too, also when what is answered is spoiled; what is answered is not spoiled with what was handed in.
func TestMemory(t *testing.T) {
	answered := 0
	for _, was := range kept() {
		for k, call := range calls() {
			in := roomy(was)
			before := whole(in)
			got := call(in)
			want := copyOf(got)
			spoil(got)
			if !reflect.DeepEqual(whole(in), before) {
				t.Errorf("call %v of %v: it is %v", k, was, in)
			}
			got = call(in)
			spoil(in)
			if !same(got, want) {
				t.Errorf("call %v of %v: %v, not %v", k, was, got, want)
			}
			if want.Err == api.OK && k >= 2 {
				answered++
			}
		}
	}
	if answered < 60 {
		t.Error(answered)
	}
}

// R3: no two lists of one answer share memory.
func TestMemoryWithin(t *testing.T) {
	for _, was := range kept() {
		for k, call := range calls() {
			got, seen := call(was), map[uintptr]bool{}
			eachList(reflect.ValueOf(&got).Elem(), func(v reflect.Value) {
				room := v.Slice(0, v.Cap())
				for at := range room.Len() {
					place := room.Index(at).Addr().Pointer()
					if seen[place] {
						t.Errorf("call %v of %v: lists of %v share memory", k, was, got)
					}
					seen[place] = true
				}
			})
			want := call(was)
			eachList(reflect.ValueOf(got), func(v reflect.Value) {
				room := v.Slice(v.Len(), v.Cap())
				for at := range room.Len() {
					fill(room.Index(at))
				}
			})
			if !same(got, want) {
				t.Errorf("call %v of %v: %v, not %v", k, was, got, want)
			}
		}
	}
}

// R3: a text that is read is apart from the bytes that it was read of, so is a row, a list of numbers.
func TestApartFromBytes(t *testing.T) {
	for _, m := range several() {
		b := seal(layMsg(m))
		got, e := frame.Decode(b)
		clear(b)
		if e != api.OK || !same(got, m) {
			t.Errorf("%v, %v, not %v", got, e, m)
		}
		if m.Kind != api.MsgPlan {
			continue
		}
		p := layPlan(m.Plan)
		plan, e := frame.DecodePlan(p)
		clear(p)
		if e != api.OK || !same(plan, m.Plan) {
			t.Errorf("%v, %v, not %v", plan, e, m.Plan)
		}
	}
}

// R3: of several answers of one thing each has its own memory.
func TestAnswersApart(t *testing.T) {
	for _, m := range append(eachKind(), several()...) {
		first, e := frame.Encode(m)
		second, f := frame.Encode(m)
		want := slices.Clone(second)
		clear(first[:cap(first)])
		if e != api.OK || f != api.OK || !bytes.Equal(second, want) {
			t.Errorf("%v: %x, not %x", m, second, want)
		}
		x, e := frame.Decode(want)
		y, f := frame.Decode(want)
		spoil(x)
		if e != api.OK || f != api.OK || !same(y, m) {
			t.Errorf("%v, not %v", y, m)
		}
	}
}

// R3, R5: nothing is kept: what is done to an answer, or to what was handed in, or asked in between, reaches no later answer.
func TestNothingIsKept(t *testing.T) {
	all := kept()
	for k, was := range all {
		for m, call := range calls() {
			want := copyOf(call(was))
			in := roomy(was)
			got := call(in)
			spoil(got)
			spoil(in)
			for _, other := range calls() {
				other(all[(k*7+m)%len(all)])
			}
			if again := call(was); !same(again, want) {
				t.Errorf("call %v of %v: %v, not %v", m, was, again, want)
			}
		}
	}
}

// R3: nil and empty lists are one, in whatever is handed in.
func TestNilAndEmpty(t *testing.T) {
	for _, g := range kept() {
		empty := copyOf(g)
		eachList(reflect.ValueOf(&empty).Elem(), func(v reflect.Value) {
			if v.Len() == 0 {
				v.Set(reflect.MakeSlice(v.Type(), 0, 2))
			}
		})
		for k, call := range calls() {
			if got, want := call(empty), call(copyOf(g)); !same(got, want) {
				t.Errorf("call %v of %v: %v, not %v", k, g, got, want)
			}
		}
	}
}

// R2: beside an error there is nothing.
func TestNothingBesideAnError(t *testing.T) {
	refused := 0
	for _, g := range kept() {
		for k, call := range calls() {
			got := call(g)
			if got.Err == api.OK {
				continue
			}
			if refused++; !same(got, answer{Err: got.Err}) {
				t.Errorf("call %v of %v: %v", k, g, got)
			}
		}
	}
	if refused < 60 {
		t.Error(refused)
	}
}
