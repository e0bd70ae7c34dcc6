package link_test

import (
	"testing"

	"bowsprit/api"
	"bowsprit/link"
)

// isPacket, isSender and isReceiver hold whether they may be.
func isPacket(t *testing.T, want bool, p api.Packet) {
	t.Helper()
	e := map[bool]api.Errno{true: api.OK, false: api.ErrBatch}[want]
	if got := link.CheckPacket(p); got != e || packetByRule(p) != e {
		t.Errorf("CheckPacket(%v): %v, by rule %v, not %v", p, got, packetByRule(p), e)
	}
}

func isSender(t *testing.T, want bool, s api.Sender) {
	t.Helper()
	e := map[bool]api.Errno{true: api.OK, false: api.ErrLink}[want]
	if got := link.CheckSender(s); got != e || senderByRule(s) != e {
		t.Errorf("CheckSender(%v): %v, by rule %v, not %v", s, got, senderByRule(s), e)
	}
}

func isReceiver(t *testing.T, want bool, r api.Receiver) {
	t.Helper()
	e := map[bool]api.Errno{true: api.OK, false: api.ErrLink}[want]
	if got := link.CheckReceiver(r); got != e || receiverByRule(r) != e {
		t.Errorf("CheckReceiver(%v): %v, by rule %v, not %v", r, got, receiverByRule(r), e)
	}
}

// puts and closes hold what becomes of a sender, and tell that.
func puts(t *testing.T, s api.Sender, rows []api.Row, want api.Sender) api.Sender {
	t.Helper()
	got, e := link.Put(s, rows)
	if e != api.OK || !same(got, want) {
		t.Errorf("Put(%v, %v): %v, %v, not %v", s, rows, got, e, want)
	}
	return got
}

func closes(t *testing.T, s, want api.Sender) api.Sender {
	t.Helper()
	got, e := link.Close(s)
	if e != api.OK || !same(got, want) {
		t.Errorf("Close(%v): %v, %v, not %v", s, got, e, want)
	}
	return got
}

// refusesPut and refusesClose hold an error, with nothing beside it.
func refusesPut(t *testing.T, s api.Sender, rows []api.Row, want api.Errno) {
	t.Helper()
	if got, e := link.Put(s, rows); e != want || !same(got, api.Sender{}) {
		t.Errorf("Put(%v, %v): %v, %v, not %v", s, rows, got, e, want)
	}
}

func refusesClose(t *testing.T, s api.Sender, want api.Errno) {
	t.Helper()
	if got, e := link.Close(s); e != want || !same(got, api.Sender{}) {
		t.Errorf("Close(%v): %v, %v, not %v", s, got, e, want)
	}
}

// ticks holds which numbers of a sender's are sent, as they stand in the Queue, what becomes of Sent and Timer, and that nothing else does.
func ticks(t *testing.T, s api.Sender, sent uint64, timer int, numbers ...uint64) api.Sender {
	t.Helper()
	var packets []api.Packet
	for _, n := range numbers {
		packets = append(packets, data(n, s.Queue[n-s.Base]))
	}
	want := s
	want.Sent, want.Timer = sent, timer
	got, l, e := link.Tick(s)
	if e != api.OK || !same(got, want) || !same(l, packets) {
		t.Errorf("Tick(%v): %v, %v, %v, not %v, %v", s, got, l, e, want, packets)
	}
	return got
}

// acks holds what becomes of a sender.
func acks(t *testing.T, s api.Sender, p api.Packet, want api.Sender) api.Sender {
	t.Helper()
	got, e := link.Acked(s, p)
	if e != api.OK || !same(got, want) {
		t.Errorf("Acked(%v, %v): %v, %v, not %v", s, p, got, e, want)
	}
	return got
}

// hearing holds what becomes of a receiver.
func hearing(t *testing.T, r api.Receiver, p api.Packet, want api.Receiver) api.Receiver {
	t.Helper()
	got, e := link.Hear(r, p)
	if e != api.OK || !same(got, want) {
		t.Errorf("Hear(%v, %v): %v, %v, not %v", r, p, got, e, want)
	}
	return got
}

// deaf holds that packets change nothing.
func deaf(t *testing.T, r api.Receiver, packets ...api.Packet) {
	t.Helper()
	for _, p := range packets {
		hearing(t, r, p, r)
	}
}

// saysAck holds what a receiver says.
func saysAck(t *testing.T, r api.Receiver, seq, limit uint64) {
	t.Helper()
	want := ack(seq, limit)
	want.Session = r.Session
	if got, e := link.Ack(r); e != api.OK || !same(got, want) {
		t.Errorf("Ack(%v): %v, %v, not %v", r, got, e, want)
	}
	isPacket(t, true, want)
}

// takes holds what is taken, and that this is all that becomes of the receiver.
func takes(t *testing.T, r api.Receiver, want api.Batch) api.Receiver {
	t.Helper()
	after := r
	after.Buffer, after.Over = r.Buffer[1:], want.End
	got, b, e := link.Take(r)
	if e != api.OK || !same(b, want) || !same(got, after) {
		t.Errorf("Take(%v): %v, %v, %v, not %v, %v", r, got, b, e, after, want)
	}
	return got
}

// takesNothing holds that there is nothing to be taken.
func takesNothing(t *testing.T, r api.Receiver) {
	t.Helper()
	if got, b, e := link.Take(r); e != api.ErrNone || !same(got, api.Receiver{}) || !same(b, api.Batch{}) {
		t.Errorf("Take(%v): %v, %v, %v, not ErrNone", r, got, b, e)
	}
}
