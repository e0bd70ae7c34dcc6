package link_test

import (
	"math"
	"math/rand"
	"reflect"
	"testing"

	"bowsprit/api"
	"bowsprit/link"
)

// noSenders and noReceivers may not be, each for another reason.
func noSenders() []api.Sender {
	l := []api.Sender{{}, sends(0, 0), sends(api.MaxSeq+1, 0), sends(1, api.MaxHold+1), sends(api.MaxSeq, 2)}
	for _, deed := range []func(s *api.Sender){
		func(s *api.Sender) { s.Session = 0 }, func(s *api.Sender) { s.Session = api.MaxSession + 1 }, func(s *api.Sender) { s.Queue[1] = api.Batch{} }, func(s *api.Sender) { s.Queue[0] = endOf(4) },
		func(s *api.Sender) { s.Queue[2] = endOf(6) }, func(s *api.Sender) { s.Sent = 2 }, func(s *api.Sender) { s.Sent = 7 }, func(s *api.Sender) { s.Sent, s.Limit = 5, 4 }, func(s *api.Sender) { s.Limit = api.MaxSeq + 1 },
		func(s *api.Sender) { s.Timer = 1 }, func(s *api.Sender) { s.Sent, s.Timer = 4, -1 }, func(s *api.Sender) { s.Sent, s.Timer = 4, api.Again },
	} {
		l = append(l, changing(sends(4, 3), deed), changing(sends(4, 3), func(s *api.Sender) {
			s.Ended = true
			deed(s)
			if s.Queue[2].End {
				s.Queue[1] = endOf(5)
			}
		}))
	}
	return l
}

func noReceivers() []api.Receiver {
	l := []api.Receiver{{}, hears(0, 5, 0), hears(api.MaxHold+1, 5, 0), hears(3, 0, 0), hears(3, api.MaxSeq+2, 0), hears(3, 9, 4), hears(3, 3, 3), hears(3, 9, 1, 9), hears(3, 9, 1, 11), hears(8, 9, 1, 11, 10), hears(8, 9, 1, 10, 10)}
	for _, deed := range []func(r *api.Receiver){
		func(r *api.Receiver) { r.Session = 0 }, func(r *api.Receiver) { r.Session = api.MaxSession + 1 }, func(r *api.Receiver) { r.Buffer[1] = api.Batch{} }, func(r *api.Receiver) { r.Buffer[0] = endOf(7) }, func(r *api.Receiver) { r.Buffer[1] = endOf(8) },
		func(r *api.Receiver) { r.Ahead[0].Batch = endOf(10) }, func(r *api.Receiver) { r.Ahead[1].Batch = end(10) }, func(r *api.Receiver) { r.Over = true }, func(r *api.Receiver) { r.Over, r.Buffer = true, nil }, func(r *api.Receiver) { r.Over, r.Ahead = true, nil },
		func(r *api.Receiver) { *r = api.Receiver{Session: own, Room: 3, Next: 1, Over: true} },
	} {
		l = append(l, changing(hears(8, 9, 2, 10, 12), deed))
	}
	return l
}

// P22.3 to P22.5: ErrLink goes ahead of all else, whatever stands beside it; and nothing with it.
func TestErrLinkAheadOfAll(t *testing.T) {
	for _, s := range noSenders() {
		isSender(t, false, s)
		for _, l := range append(noRows(), list("1")) {
			refusesPut(t, s, l, api.ErrLink)
		}
		refusesClose(t, s, api.ErrLink)
		if got, l, e := link.Tick(s); e != api.ErrLink || !same(got, api.Sender{}) || len(l) != 0 {
			t.Errorf("Tick(%v): %v, %v, %v", s, got, l, e)
		}
		for _, p := range append(noAcks(), ack(4, 9), ack(5, 9)) {
			if got, e := link.Acked(s, p); e != api.ErrLink || !same(got, api.Sender{}) {
				t.Errorf("Acked(%v, %v): %v, %v", s, p, got, e)
			}
		}
	}
	for _, r := range noReceivers() {
		isReceiver(t, false, r)
		for _, p := range append(noData(), data(9, of(9)), data(11, of(11))) {
			if got, e := link.Hear(r, p); e != api.ErrLink || !same(got, api.Receiver{}) {
				t.Errorf("Hear(%v, %v): %v, %v", r, p, got, e)
			}
		}
		if p, e := link.Ack(r); e != api.ErrLink || !same(p, api.Packet{}) {
			t.Errorf("Ack(%v): %v, %v", r, p, e)
		}
		if got, b, e := link.Take(r); e != api.ErrLink || !same(got, api.Receiver{}) || !same(b, api.Batch{}) {
			t.Errorf("Take(%v): %v, %v, %v", r, got, b, e)
		}
	}
}

// strew changes a thing here and there by chance.
func strew(chance *rand.Rand, v reflect.Value) {
	odd := []uint64{0, 1, 2, 3, 4, 5, 7, 8, 9, api.MaxSession, api.MaxSession + 1, api.MaxSeq - 1, api.MaxSeq, api.MaxSeq + 1, api.MaxSeq + 2, math.MaxInt64, 1 << 63, math.MaxUint64}
	n := odd[chance.Intn(len(odd))]
	here := chance.Intn(12) == 0
	switch v.Kind() {
	case reflect.Struct:
		for k := range v.NumField() {
			strew(chance, v.Field(k))
		}
	case reflect.Slice:
		for k := range v.Len() {
			strew(chance, v.Index(k))
		}
		switch {
		case here && v.Len() > 0 && chance.Intn(2) == 0:
			v.Set(reflect.AppendSlice(v, v.Slice(0, 1+chance.Intn(v.Len()))))
		case here && v.Len() > 0:
			v.SetLen(chance.Intn(v.Len()))
		case here:
			v.Set(reflect.MakeSlice(v.Type(), 1+chance.Intn(3), 4))
		}
	case reflect.Bool:
		v.SetBool(v.Bool() != here)
	case reflect.String:
	default:
		switch {
		case !here:
		case v.CanInt() && chance.Intn(2) == 0:
			v.SetInt(v.Int() + int64(n%3) - 1)
		case v.CanInt():
			v.SetInt(int64(n))
		case chance.Intn(2) == 0:
			v.SetUint(v.Uint() + n%3 - 1)
		default:
			v.SetUint(n)
		}
	}
}

// R1, R2: whatever is handed in, each call ends; which may be is as reckoned; beside an error there is nothing.
func TestWhatever(t *testing.T) {
	chance := rand.New(rand.NewSource(221))
	all, may, refused := kept(), [2]int{}, 0
	for range 12000 {
		g := copyOf(all[chance.Intn(len(all))])
		strew(chance, reflect.ValueOf(&g).Elem())
		isPacket(t, packetByRule(g.Packet) == api.OK, g.Packet)
		isSender(t, senderByRule(g.Sender) == api.OK, g.Sender)
		isReceiver(t, receiverByRule(g.Receiver) == api.OK, g.Receiver)
		if senderByRule(g.Sender) == api.OK {
			may[0]++
		}
		if receiverByRule(g.Receiver) == api.OK {
			may[1]++
		}
		for k, call := range calls() {
			a := call(g)
			if a.Err == api.OK {
				continue
			}
			refused++
			if e := a.Err; !same(a, answer{Err: e}) && !same(a, answer{Err: e, Packets: []api.Packet{{}}}) {
				t.Errorf("call %v of %v: %v", k, g, a)
			}
		}
	}
	if may[0] < 1000 || may[1] < 1000 || refused < 10000 {
		t.Error(may, refused)
	}
}
