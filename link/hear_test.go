package link_test

import (
	"math"
	"slices"
	"testing"

	"bowsprit/api"
)

// noData are packets which a receiver of the session, with Next 5 and room for 5 and 6, takes no heed of.
func noData() []api.Packet {
	l := []api.Packet{{}, ack(5, 9), ack(6, 9), data(0, of(1)), data(4, of(4)), data(1, end(0)), data(7, of(7)), data(8, end(7)), data(api.MaxSeq, of(1)), data(api.MaxSeq+1, of(1)), data(math.MaxUint64, of(1))}
	good := data(5, of(5))
	for _, deed := range []func(p *api.Packet){
		func(p *api.Packet) { p.Session = own + 1 }, func(p *api.Packet) { p.Session = own - 1 }, func(p *api.Packet) { p.Session = 0 }, func(p *api.Packet) { p.Session += 1 << 31 },
		func(p *api.Packet) { p.Kind = 0 }, func(p *api.Packet) { p.Kind = 3 }, func(p *api.Packet) { p.Kind = -1 }, func(p *api.Packet) { p.Kind = api.PkAck }, func(p *api.Packet) { p.Limit = 5 },
		func(p *api.Packet) { p.Batch.Count = 4 }, func(p *api.Packet) { p.Batch.End = true }, func(p *api.Packet) { p.Batch.Rows = nil }, func(p *api.Packet) { p.Batch = end(5) }, func(p *api.Packet) { p.Batch = end(3) },
		func(p *api.Packet) { p.Batch.Rows = wrongRows()[:1] }, func(p *api.Packet) { p.Batch.Rows = list("1 / 2 / 3 / 4 / 5") },
	} {
		l = append(l, changing(good, deed))
	}
	return l
}

// P22.5: any other packet changes nothing: of another session, of another Kind, such as may not be, below Next, above the limit.
func TestHearOfOthers(t *testing.T) {
	for _, r := range []api.Receiver{hears(2, 5, 0), hears(3, 5, 1), hears(6, 5, 4), hears(2, 5, 0, 6)} {
		isReceiver(t, true, r)
		deaf(t, r, noData()...)
		want := changing(r, func(r *api.Receiver) {
			r.Buffer = append(r.Buffer, of(5))
			for _, h := range r.Ahead {
				r.Buffer = append(r.Buffer, h.Batch)
			}
			r.Next, r.Ahead = 6+uint64(len(r.Ahead)), nil
		})
		hearing(t, r, data(5, of(5)), want)
	}
}

// P22.5: each number from below Next to above the limit, in each room, behind each Buffer.
func TestHearOfEachNumber(t *testing.T) {
	for room := 1; room <= api.MaxHold; room++ {
		for had := range room + 1 {
			for _, next := range []uint64{9, api.MaxSeq - 3, api.MaxSeq, api.MaxSeq + 1} {
				r := hears(room, next, had)
				for n := next - 4; n < next+11; n++ {
					for _, b := range []api.Batch{of(n), endOf(n)} {
						want := copyOf(r)
						switch {
						case n < next, n >= next+uint64(room-had), n > api.MaxSeq:
						case n == next:
							want.Next, want.Buffer = n+1, append(want.Buffer, b)
						default:
							want.Ahead = []api.Held{{Seq: n, Batch: b}}
						}
						isReceiver(t, true, hearing(t, r, data(n, b), want))
					}
				}
			}
		}
	}
}

// P22.5: what comes ahead stands by its number, wherever that is among the others; twice the same one changes nothing, whatever it has.
func TestHearAhead(t *testing.T) {
	for set := range 1 << 7 {
		r := hears(8, 5, 0)
		for n := uint64(6); n <= 12; n++ {
			if set>>(n-6)&1 == 1 {
				r.Ahead = append(r.Ahead, held(n)...)
			}
		}
		isReceiver(t, true, r)
		for n := uint64(6); n <= 12; n++ {
			if set>>(n-6)&1 == 1 {
				deaf(t, r, data(n, of(n)), data(n, rows("1")), data(n, endOf(n)))
				continue
			}
			want := copyOf(r)
			want.Ahead = nil
			for k := uint64(6); k <= 12; k++ {
				if k == n || set>>(k-6)&1 == 1 {
					want.Ahead = append(want.Ahead, held(k)...)
				}
			}
			hearing(t, r, data(n, of(n)), want)
		}
		after := uint64(6) // the first one that is wanted behind 5
		for set>>(after-6)&1 == 1 {
			after++
		}
		want := hears(8, after, int(after-5))
		for _, h := range r.Ahead {
			if h.Seq > after {
				want.Ahead = append(want.Ahead, h)
			}
		}
		hearing(t, r, data(5, of(5)), want)
	}
}

// orders are all orders of some numbers.
func orders(numbers ...uint64) [][]uint64 {
	if len(numbers) == 0 {
		return [][]uint64{nil}
	}
	var l [][]uint64
	for k, n := range numbers {
		for _, o := range orders(slices.Concat(numbers[:k], numbers[k+1:])...) {
			l = append(l, append([]uint64{n}, o...))
		}
	}
	return l
}

// P22.5: all that fits, in each order of a few: the Buffer has what follows without a gap, in the order of the numbers; what came already changes nothing.
func TestHearInEachOrder(t *testing.T) {
	all := orders(1, 2, 3, 4, 5, 6)
	if len(all) != 720 {
		t.Fatal(all)
	}
	for _, o := range all {
		r := hears(6, 1, 0)
		for k, n := range o {
			came := o[:k+1]
			want := hears(6, 1, 0)
			for slices.Contains(came, want.Next) {
				want.Buffer = append(want.Buffer, of(want.Next))
				want.Next++
			}
			for m := want.Next + 1; m <= 6; m++ {
				if slices.Contains(came, m) {
					want.Ahead = append(want.Ahead, held(m)...)
				}
			}
			r = hearing(t, r, data(n, of(n)), want)
			for _, m := range came {
				deaf(t, r, data(m, of(m)), data(m, rows("'other'")))
			}
		}
	}
}

// P22.5: an end that comes early, below and above what is ahead; what comes behind it; it comes twice.
func TestHearOfTheEnd(t *testing.T) {
	r := hears(8, 5, 0, 7, 9)
	deaf(t, r, data(5, endOf(5)), data(6, endOf(6)), data(7, endOf(7)), data(8, endOf(8)), data(9, endOf(9)))
	for n := uint64(10); n <= 12; n++ {
		ended := changing(r, func(r *api.Receiver) { r.Ahead = append(r.Ahead, api.Held{Seq: n, Batch: endOf(n)}) })
		hearing(t, r, data(n, endOf(n)), ended)
		deaf(t, ended, data(n, endOf(n)), data(n, of(n)))
		for m := n + 1; m < 15; m++ {
			deaf(t, ended, data(m, of(m)), data(m, endOf(m)))
		}
		for m := uint64(5); m < n; m++ {
			deaf(t, ended, data(m, endOf(m)))
		}
		hearing(t, ended, data(8, of(8)), changing(ended, func(r *api.Receiver) { r.Ahead = append(held(7, 8, 9), r.Ahead[2]) }))
		hearing(t, ended, data(5, of(5)), changing(ended, func(r *api.Receiver) { r.Buffer, r.Next = queue(5, 1, false), 6 }))
	}
	gap := changing(hears(8, 5, 0, 6, 7, 8), func(r *api.Receiver) { r.Ahead[2].Batch = endOf(8) })
	all := changing(hears(8, 9, 4), func(r *api.Receiver) { r.Buffer[3] = endOf(8) })
	hearing(t, gap, data(5, of(5)), all)
	deaf(t, gap, data(5, endOf(5)), data(9, of(9)), data(9, endOf(9)))
	deaf(t, all, data(9, of(9)), data(9, endOf(9)), data(8, endOf(8)), data(8, of(8)), data(10, of(10)), data(5, of(5)))
}

// P22.5: an end that comes late, as what is wanted; alone, behind others; and of the number 1.
func TestHearOfTheEndInTime(t *testing.T) {
	for had := range api.MaxHold {
		r := hears(8, 9, had)
		want := changing(r, func(r *api.Receiver) { r.Buffer, r.Next = append(r.Buffer, end(8)), 10 })
		hearing(t, r, data(9, end(8)), want)
		for n := uint64(1); n < 30; n++ {
			deaf(t, want, data(n, of(n)), data(n, endOf(n)))
		}
		if had < api.MaxHold-1 {
			r.Ahead = held(10)
			deaf(t, r, data(9, end(8)))
		}
	}
	hearing(t, hears(1, 1, 0), data(1, end(0)), api.Receiver{Session: own, Room: 1, Next: 2, Buffer: []api.Batch{end(0)}})
	hearing(t, hears(1, api.MaxSeq, 0), data(api.MaxSeq, end(api.MaxSeq-1)), api.Receiver{Session: own, Room: 1, Next: api.MaxSeq + 1, Buffer: []api.Batch{end(api.MaxSeq - 1)}})
}

// P22.5: a Buffer that is full; a receiver that is over.
func TestHearWhenFullOrOver(t *testing.T) {
	for room := 1; room <= api.MaxHold; room++ {
		full, over := hears(room, 12, room), hears(room, 12, 0)
		over.Over = true
		for n := uint64(1); n < 30; n++ {
			deaf(t, full, data(n, of(n)), data(n, endOf(n)))
			deaf(t, over, data(n, of(n)), data(n, endOf(n)))
		}
	}
}

// P22.5: what is said of each room, behind each Buffer, with something ahead, or over.
func TestAck(t *testing.T) {
	for room := 1; room <= api.MaxHold; room++ {
		for had := range room + 1 {
			for _, next := range []uint64{9, 1 << 32, api.MaxSeq - 9, api.MaxSeq - 3, api.MaxSeq, api.MaxSeq + 1} {
				limit := min(next-1+uint64(room-had), api.MaxSeq)
				saysAck(t, hears(room, next, had), next, limit)
				if limit > next {
					saysAck(t, hears(room, next, had, limit), next, limit)
				}
				if had > 0 {
					saysAck(t, changing(hears(room, next, had), func(r *api.Receiver) { r.Buffer[had-1] = endOf(next - 1) }), next, limit)
				}
			}
		}
		saysAck(t, hears(room, 1, 0), 1, uint64(room))
		saysAck(t, changing(hears(room, 2, 0), func(r *api.Receiver) { r.Over = true }), 2, 1+uint64(room))
		saysAck(t, changing(hears(room, 2, 0), func(r *api.Receiver) { r.Session = api.MaxSession }), 2, 1+uint64(room))
	}
}

// P22.5: from nothing down to the end, and behind it; what is ahead stays, and there is room for one more each time.
func TestTake(t *testing.T) {
	for had := range api.MaxHold {
		r := hears(8, 20, had)
		if had < api.MaxHold-1 {
			r.Ahead = held(21)
		}
		for n := range uint64(had) {
			saysAck(t, r, 20, 19+8-uint64(had)+n)
			r = takes(t, r, of(20-uint64(had)+n))
		}
		saysAck(t, r, 20, 27)
		takesNothing(t, r)
	}
	for had := 1; had <= api.MaxHold; had++ {
		r := changing(hears(8, 20, had), func(r *api.Receiver) { r.Buffer[had-1] = end(18) })
		for n := range uint64(had - 1) {
			r = takes(t, r, of(20-uint64(had)+n))
		}
		r = takes(t, r, end(18))
		if !r.Over {
			t.Error(r)
		}
		takesNothing(t, r)
		deaf(t, r, data(19, end(18)), data(20, of(20)))
	}
	takesNothing(t, hears(1, 1, 0))
	takesNothing(t, hears(3, 1, 0, 2, 3))
	takes(t, api.Receiver{Session: own, Room: 1, Next: 2, Buffer: []api.Batch{end(0)}}, end(0))
	takes(t, changing(hears(1, api.MaxSeq+1, 1), func(r *api.Receiver) { r.Buffer[0] = end(api.MaxSeq - 1) }), end(api.MaxSeq-1))
}

// P22.5: all receivers of a few numbers hear packets of each number about Next.
func TestHearByRule(t *testing.T) {
	heard, followed := 0, 0
	for _, r := range fewReceivers() {
		for n := r.Next - 2; n <= r.Next+uint64(r.Room)+1; n++ {
			for _, b := range []api.Batch{of(n), endOf(n)} {
				want := hearByRule(r, data(n, b))
				got := hearing(t, r, data(n, b), want)
				isReceiver(t, true, got)
				if len(got.Buffer)+len(got.Ahead) > len(r.Buffer)+len(r.Ahead) {
					heard++
				}
				if got.Next > r.Next+1 {
					followed++
				}
			}
		}
	}
	if heard < 3000 || followed < 300 {
		t.Error(heard, followed)
	}
}

// P22.5: all receivers of a few numbers, asked what they say, and what there is to be taken.
func TestAckAndTakeByRule(t *testing.T) {
	for _, r := range fewReceivers() {
		saysAck(t, r, r.Next, limitByRule(r))
		if len(r.Buffer) == 0 {
			takesNothing(t, r)
		} else {
			isReceiver(t, true, takes(t, r, r.Buffer[0]))
		}
	}
}
