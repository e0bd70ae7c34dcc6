package frame_test

import (
	"slices"
	"testing"

	"bowsprit/api"
	"bowsprit/frame"
)

// eachChange is bytes with each one changed to each other one.
func eachChange(b []byte, visit func(changed []byte)) {
	changed := slices.Clone(b)
	for place, was := range b {
		for by := 1; by < 256; by++ {
			changed[place] = was ^ byte(by)
			visit(changed)
		}
		changed[place] = was
	}
}

// P23.2, P23.3: each byte changed to each other one, and sealed again: what comes is another message, or none, as the rule says; so of plans.
func TestEachByteChanged(t *testing.T) {
	read := map[api.Errno]int{}
	for _, m := range append(eachKind(), several()...) {
		eachChange(layMsg(m), func(b []byte) { read[isRead(t, b)]++ })
		if m.Kind == api.MsgPlan {
			eachChange(layPlan(m.Plan), func(b []byte) { read[isReadPlan(t, b)]++ })
		}
	}
	if read[api.OK] < 5000 || read[api.ErrFrame] < 50000 || len(read) != 2 {
		t.Error(read)
	}
}

// P23.4: each byte of a message's changed to each other one, those that seal it, too: no message's.
func TestEachByteSpoiled(t *testing.T) {
	for _, m := range append(eachKind(), several()...) {
		eachChange(seal(layMsg(m)), func(b []byte) {
			if got, e := frame.Decode(b); e != api.ErrSum || !same(got, api.Msg{}) {
				t.Errorf("%x of %v is read: %v, %v", b, m, got, e)
			}
		})
	}
}

// P23.2: two bytes changed, three: still as the rule says, sealed again or not.
func TestSeveralBytesChanged(t *testing.T) {
	m := newMaker(231)
	read := map[api.Errno]int{}
	for _, msg := range append(eachKind(), several()...) {
		b := layMsg(msg)
		for range 1500 {
			changed := slices.Clone(b)
			for range 2 + m.Intn(3) {
				at := m.Intn(len(changed))
				switch m.Intn(4) {
				case 0:
					changed[at] = byte(m.Intn(256))
				case 1:
					changed[at] = byte(m.Intn(5))
				case 2:
					changed = slices.Delete(changed, at, min(at+1+m.Intn(3), len(changed)))
				case 3:
					changed = slices.Insert(changed, at, byte(m.Intn(4)))
				}
				if len(changed) == 0 {
					changed = []byte{1}
				}
			}
			read[isRead(t, changed)]++
			read[isOpened(t, changed)]++
		}
	}
	if read[api.OK] < 500 || read[api.ErrFrame] < 10000 || read[api.ErrSum] < 10000 {
		t.Error(read)
	}
}
