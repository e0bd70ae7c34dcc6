package link_test

import (
	"math/rand"
	"reflect"
	"slices"
	"testing"

	"bowsprit/api"
	"bowsprit/link"
)

// flow is a stream on its way: both ends, what is to be put, all of it, and what was taken. Its first batch is of the number first.
type flow struct {
	s          api.Sender
	r          api.Receiver
	first      uint64
	left, all  []api.Batch
	taken      []api.Batch
	wasOver    bool
	aheadCount int // how often something stood ahead
}

// web is streams whose packets go over the same way, on which they are lost, doubled, late, and turned about.
type web struct {
	*rand.Rand
	flows []*flow
	way   []api.Packet // what was said, and did neither come nor get lost
	said  []api.Packet // all that ever was
	odds  [9]int       // how often each thing is done
	heard int          // how many changed something
}

// batches are rows of chance, and the end, for numbers from first on.
func batches(chance *rand.Rand, first uint64, count int) []api.Batch {
	l := queue(first, count+1, true)
	for k := range count {
		l[k].Rows = nil
		for range 1 + chance.Intn(api.MaxBatch) {
			l[k].Rows = append(l[k].Rows, api.Row{number(int64(chance.Intn(50))), text("row"), null}[:chance.Intn(4)])
		}
	}
	return l
}

// newFlow is a stream of which nothing was said: from Open and Listen on, or from a number far above.
func newFlow(t *testing.T, chance *rand.Rand, session uint32) *flow {
	f := &flow{first: 1}
	f.s, f.r = begin(t, session, 1+chance.Intn(api.MaxHold))
	count := chance.Intn(24)
	if chance.Intn(6) == 0 { // its end is at most the greatest number
		f.first = api.MaxSeq - uint64(count+chance.Intn(3))
		f.s.Base, f.s.Sent, f.s.Limit, f.r.Next = f.first, f.first-1, f.first-1, f.first
	}
	f.all = batches(chance, f.first, count)
	f.left = f.all
	return f
}

func newWeb(t *testing.T, seed int64) *web {
	w := &web{Rand: rand.New(rand.NewSource(seed))}
	for k := range 1 + w.Intn(3) {
		w.flows = append(w.flows, newFlow(t, w.Rand, []uint32{own, own + 1, 1<<30 + own}[k]))
	}
	for k := range w.odds {
		w.odds[k] = 1 + w.Intn(10)
	}
	w.odds[3+2*w.Intn(3)] += 10 // much is taken, or comes in order, or late
	if w.Intn(3) == 0 {
		w.odds[4] *= 3 // most is lost
	}
	return w
}

// says sends packets; of too many on the way some are lost.
func (w *web) says(l ...api.Packet) {
	w.way, w.said = append(w.way, l...), append(w.said, l...)
	for len(w.way) > 20 {
		w.pull()
	}
}

// pull takes one from the way, wherever it stands there.
func (w *web) pull() api.Packet {
	k := w.Intn(len(w.way))
	p := w.way[k]
	w.way = slices.Delete(w.way, k, k+1)
	return p
}

// comes has both ends of all streams hear a packet; one of another session, or that may not be, changes nothing.
func (w *web) comes(t *testing.T, p api.Packet) {
	t.Helper()
	for _, f := range w.flows {
		s, e := link.Acked(f.s, p)
		must(t, e)
		r, e := link.Hear(f.r, p)
		must(t, e)
		if !same(s, f.s) || !same(r, f.r) {
			w.heard++
			if p.Session != f.s.Session || packetByRule(p) != api.OK {
				t.Errorf("%v is heard: %v, %v", p, s, r)
			}
		}
		f.s, f.r = s, r
	}
}

// spoiled is a packet that was said with something changed, so that it may not be; else there is none.
func (w *web) spoiled() (api.Packet, bool) {
	p := copyOf(w.said[w.Intn(len(w.said))])
	strew(w.Rand, reflect.ValueOf(&p).Elem())
	return p, packetByRule(p) != api.OK
}

// does is one thing that befalls, of a kind.
func (w *web) does(t *testing.T, kind int) {
	t.Helper()
	f := w.flows[w.Intn(len(w.flows))]
	var e api.Errno
	switch {
	case kind == 0 && len(f.left) > 0:
		s, e := putOne(f.s, f.left[0])
		if full := len(f.s.Queue) == api.MaxHold; full != (e == api.ErrFull) || !full && e != api.OK {
			t.Fatal(f.s, e)
		}
		if e == api.OK {
			f.s, f.left = s, f.left[1:]
		}
	case kind == 1:
		var l []api.Packet
		f.s, l, e = link.Tick(f.s)
		must(t, e)
		w.says(l...)
	case kind == 2:
		p, e := link.Ack(f.r)
		must(t, e)
		w.says(p)
	case kind == 3 && len(f.r.Buffer) > 0:
		var b api.Batch
		f.r, b, e = link.Take(f.r)
		must(t, e)
		f.taken = append(f.taken, b)
	case kind == 4 && len(w.way) > 0:
		w.pull()
	case kind == 5 && len(w.way) > 0: // the next one comes
		p := w.way[0]
		w.way = w.way[1:]
		w.comes(t, p)
	case kind == 6 && len(w.way) > 0: // another one comes
		w.comes(t, w.pull())
	case kind == 7 && len(w.said) > 0: // one that came or was lost comes, late
		w.comes(t, w.said[w.Intn(len(w.said))])
	case kind == 8 && len(w.said) > 0:
		if p, ok := w.spoiled(); ok {
			w.comes(t, p)
		}
	}
}

// isSound holds what follows of a stream, wherever it stands.
func (f *flow) isSound(t *testing.T) {
	t.Helper()
	isSender(t, true, f.s)
	isReceiver(t, true, f.r)
	put := f.all[:len(f.all)-len(f.left)]
	came := append(slices.Clone(f.taken), f.r.Buffer...)
	if len(came) > len(put) || !same(came, put[:len(came)]) {
		t.Errorf("%v was taken, or can be, of %v", came, put)
	}
	if taken := f.first - 1 + uint64(len(f.taken)); f.s.Sent > taken+uint64(f.r.Room) || f.s.Limit > taken+uint64(f.r.Room) || f.r.Next != taken+1+uint64(len(f.r.Buffer)) {
		t.Errorf("%v and %v: behind %v there is no room", f.s, f.r, taken)
	}
	for _, h := range f.r.Ahead {
		if !same(h.Batch, put[h.Seq-f.first]) || h.Seq > f.s.Sent {
			t.Errorf("%v of %v", h, put)
		}
	}
	if f.s.Base > f.r.Next || f.r.Next > f.s.Sent+1 || !same(f.s.Queue, put[f.s.Base-f.first:]) {
		t.Errorf("%v and %v of %v", f.s, f.r, put)
	}
	over := len(f.taken) > 0 && f.taken[len(f.taken)-1].End
	if f.r.Over != over || f.wasOver && !over {
		t.Errorf("%v behind %v", f.r, f.taken)
	}
	f.wasOver = over
	f.aheadCount += min(len(f.r.Ahead), 1)
}

// ends holds that a stream comes to its end from where it stands, if all comes from then on, within the rounds that are promised: as many as batches are left, and Again for each. With late ones what was said comes again, too.
func (f flow) ends(t *testing.T, w *web, early, late bool) {
	t.Helper()
	batches := len(f.all) - len(f.taken)
	for range batches * (1 + api.Again) {
		if late && len(w.said) > 0 {
			for range 3 {
				p := w.said[w.Intn(len(w.said))]
				f.s, _ = link.Acked(f.s, p)
				f.r, _ = link.Hear(f.r, p)
			}
		}
		var taken []api.Batch
		f.left, taken = turn(t, &f.s, &f.r, f.left, early)
		f.taken = append(f.taken[:len(f.taken):len(f.taken)], taken...)
		if f.r.Over {
			break
		}
	}
	if !f.r.Over || !same(f.taken, f.all) || len(f.left) > 0 {
		t.Errorf("it does not end: %v, %v; %v was taken of %v", f.s, f.r, f.taken, f.all)
	}
}

// P22.6: over nets of chance what was taken is a beginning of what was put; what is under way has room; from wherever it stands the end is met.
func TestNets(t *testing.T) {
	steps, over, ahead, heard, rows := 0, 0, 0, 0, 0
	for seed := range int64(150) {
		w := newWeb(t, 2200+seed)
		total := 0
		for _, n := range w.odds {
			total += n
		}
		for range 200 + w.Intn(600) {
			steps++
			n, kind := w.Intn(total), 0
			for ; n >= w.odds[kind]; kind++ {
				n -= w.odds[kind]
			}
			w.does(t, kind)
			for _, f := range w.flows {
				f.isSound(t)
			}
			if w.Intn(8) == 0 {
				f := w.flows[w.Intn(len(w.flows))]
				f.ends(t, w, w.Intn(2) == 0, w.Intn(2) == 0)
			}
		}
		for _, f := range w.flows {
			over += map[bool]int{true: 1}[f.r.Over]
			ahead += f.aheadCount
			rows += len(f.taken)
		}
		heard += w.heard
	}
	if steps < 60000 || over < 70 || ahead < 10000 || heard < 3000 || rows < 1500 {
		t.Error(steps, over, ahead, heard, rows)
	}
}
