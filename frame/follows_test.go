package frame_test

import (
	"bytes"
	"testing"

	"bowsprit/api"
	"bowsprit/frame"
)

// P23.4: Decode of Encode is the message, Encode of Decode the bytes; over messages of chance, of each Kind.
func TestMessagesOfChance(t *testing.T) {
	m := newMaker(232)
	ops, tags, tooLong := map[int]int{}, map[int]int{}, 0
	for range 1500 {
		for kind := api.MsgPlan; kind <= api.MsgGone; kind++ {
			x := m.msg(kind)
			if len(layMsg(x))+4 > api.MaxFrame {
				mayNot(t, x)
				tooLong++
				continue
			}
			may(t, x)
			b, e := frame.Encode(x)
			y, f := frame.Decode(b)
			if again, g := frame.Encode(y); e != api.OK || f != api.OK || g != api.OK || !frame.Same(x, y) || !bytes.Equal(again, b) {
				t.Errorf("%v: %x, %v, %x, %v, %v, %v", x, b, y, again, e, f, g)
			}
			usedOps, usedTags := opsOf(x.Plan)
			for _, op := range usedOps {
				ops[op]++
			}
			for _, tag := range usedTags {
				tags[tag]++
			}
		}
	}
	if len(ops) != 11 || len(tags) != 18 || tooLong > 100 {
		t.Error(ops, tags, tooLong)
	}
	for op, count := range ops {
		if count < 200 {
			t.Error(op, count)
		}
	}
	for tag, count := range tags {
		if count < 100 {
			t.Error(tag, count)
		}
	}
}

// P23.4: so of plans, of all lengths.
func TestPlansOfChance(t *testing.T) {
	m := newMaker(233)
	lengths := map[int]int{}
	for range 400 {
		p := m.plan(api.MaxFrags)
		mayPlan(t, p)
		b, e := frame.EncodePlan(p)
		q, f := frame.DecodePlan(b)
		if again, g := frame.EncodePlan(q); e != api.OK || f != api.OK || g != api.OK || !same(p, q) || !bytes.Equal(again, b) {
			t.Errorf("%v: %x, %v, %x, %v, %v, %v", p, b, q, again, e, f, g)
		}
		lengths[len(p.Frags)]++
	}
	if len(lengths) != api.MaxFrags {
		t.Error(lengths)
	}
}

// P23.4: bytes that are read are laid as they were; over bytes of chance, which begin as a message's, and are sealed.
func TestBytesOfChance(t *testing.T) {
	m := newMaker(234)
	read := map[api.Errno]int{}
	for range 60000 {
		b := make([]byte, m.Intn(24))
		for k := range b {
			b[k] = byte(m.Intn([]int{2, 4, 9, 256}[m.Intn(4)]))
		}
		e := isRead(t, b)
		if read[e]++; e == api.OK {
			x, _ := frame.Decode(seal(b))
			if got, e := frame.Encode(x); e != api.OK || !bytes.Equal(got, seal(b)) {
				t.Errorf("%x: %v, %x, %v", b, x, got, e)
			}
		}
		isReadPlan(t, b)
		isOpened(t, b)
	}
	if read[api.OK] < 20 || read[api.ErrFrame] < 50000 {
		t.Error(read)
	}
}

// P23.4: unlike messages have unlike bytes, those of one message with one thing changed among them; such as are the same have the same.
func TestUnlikeBytes(t *testing.T) {
	m := newMaker(235)
	seen, count := map[string]api.Msg{}, 0
	visit := func(x api.Msg) {
		b, e := frame.Encode(x)
		if e != api.OK {
			return
		}
		other, there := seen[string(b)]
		if there && (!same(x, other) || !frame.Same(x, other)) {
			t.Errorf("%v and %v are both %x", x, other, b)
		}
		seen[string(b)] = x
		count++
	}
	for range 120 {
		for kind := api.MsgPlan; kind <= api.MsgGone; kind++ {
			x := m.msg(kind)
			if kind == api.MsgPlan {
				x.Plan = m.plan(2)
			}
			visit(x)
			visit(copyOf(x))
			for _, y := range variants(x) {
				visit(y)
			}
		}
	}
	for _, x := range append(eachKind(), several()...) {
		visit(x)
	}
	if len(seen) < 4000 || count < len(seen)+500 {
		t.Error(len(seen), count)
	}
}

// P23.4: one byte of a message's changed, whichever it is and to whatever: no message's.
func TestOneByteOfChance(t *testing.T) {
	m := newMaker(236)
	for range 300 {
		for kind := api.MsgPlan; kind <= api.MsgGone; kind++ {
			b, e := frame.Encode(m.msg(kind))
			if e != api.OK {
				continue
			}
			for range 20 {
				at, by := m.Intn(len(b)), byte(1+m.Intn(255))
				b[at] ^= by
				if got, e := frame.Decode(b); e != api.ErrSum || !same(got, api.Msg{}) {
					t.Errorf("%x, at %v by %v: %v, %v", b, at, by, got, e)
				}
				b[at] ^= by
			}
			if _, e := frame.Decode(b); e != api.OK {
				t.Errorf("%x: %v", b, e)
			}
		}
	}
}
