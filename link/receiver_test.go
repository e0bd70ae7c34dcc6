package link_test

import (
	"math"
	"testing"

	"bowsprit/api"
)

// P22.1: sessions of receivers.
func TestSessionOfReceiver(t *testing.T) {
	for session, may := range sessions() {
		for _, r := range []api.Receiver{hears(1, 1, 0), hears(5, 6, 2, 8)} {
			r.Session = session
			isReceiver(t, may, r)
		}
	}
	isReceiver(t, false, api.Receiver{})
}

// P22.1: Room, with a Buffer of as many, of one more, and of as many as Next.
func TestRoomAndBuffer(t *testing.T) {
	for _, room := range []int{math.MinInt, -256, -1, 0, api.MaxHold + 1, api.MaxHold + 2, 256 + 1, 1<<32 + 1, math.MaxInt} {
		isReceiver(t, false, hears(room, 1, 0))
		isReceiver(t, false, hears(room, 12, 0))
		isReceiver(t, false, hears(room, 12, 1))
	}
	for room := 1; room <= api.MaxHold; room++ {
		for had := range api.MaxHold + 3 {
			for _, next := range []uint64{12, 1 << 32, api.MaxSeq, api.MaxSeq + 1} {
				isReceiver(t, had <= room, hears(room, next, had))
			}
			for next := uint64(1); next < 12; next++ {
				r := hears(room, 12, 0)
				r.Next, r.Buffer = next, queue(1, had, false)
				isReceiver(t, had <= room && uint64(had) < next, r)
			}
		}
	}
	isReceiver(t, false, api.Receiver{Session: own, Room: 8, Next: api.MaxSeq, Buffer: make([]api.Batch, 1<<16)})
}

// P22.1: Next.
func TestNextOfReceiver(t *testing.T) {
	for next, may := range map[uint64]bool{0: false, 1: true, 2: true, 3: true, api.MaxSeq - 1: true, api.MaxSeq: true, api.MaxSeq + 1: true} {
		for room := 1; room <= api.MaxHold; room++ {
			isReceiver(t, may, hears(room, next, 0))
			isReceiver(t, next > 1, hears(room, next, 1)) // of 0 and 1 the batch's number is below 1
		}
	}
	for _, next := range far() {
		isReceiver(t, false, hears(3, next, 0))
		isReceiver(t, false, hears(3, next, 1))
	}
}

// P22.1: a batch of the Buffer that may not be, an end at each place of it.
func TestBatchesOfBuffer(t *testing.T) {
	wrong := []api.Batch{{}, {Count: 1}, {Rows: list("1"), Count: 1}, {Rows: list("1 / 2 / 3 / 4 / 5")}, {Rows: wrongRows()[:1]}, {Rows: list("1"), End: true}, end(math.MaxUint64)}
	for _, next := range []uint64{9, 30, api.MaxSeq + 1} {
		for had := 1; had <= api.MaxHold; had++ {
			for at := range had {
				n := next - uint64(had-at)
				isReceiver(t, at == had-1, changing(hears(8, next, had), func(r *api.Receiver) { r.Buffer[at] = endOf(n) }))
				for _, b := range append(wrong, end(n), end(n-2)) {
					isReceiver(t, false, changing(hears(8, next, had), func(r *api.Receiver) { r.Buffer[at] = b }))
				}
			}
		}
	}
	two := hears(8, 9, 3)
	two.Buffer[1], two.Buffer[2] = endOf(7), endOf(8)
	isReceiver(t, false, two)
}

// P22.1: what is ahead: at Next, one above, at the limit, one more; the limit goes with Next, Room and the Buffer.
func TestAheadAndLimit(t *testing.T) {
	for room := 1; room <= api.MaxHold; room++ {
		for had := range room + 1 {
			for _, next := range []uint64{9, 100, api.MaxSeq - 9, api.MaxSeq - 3, api.MaxSeq, api.MaxSeq + 1} {
				limit := next - 1 + uint64(room-had)
				for n := next - 3; n < next+12; n++ {
					isReceiver(t, n > next && n <= min(limit, api.MaxSeq), hears(room, next, had, n))
				}
				for _, n := range append(far(), 0, 1) {
					isReceiver(t, false, hears(room, next, had, n))
				}
			}
		}
	}
	isReceiver(t, true, hears(3, 1, 0, 2, 3))
	isReceiver(t, false, hears(3, 1, 0, 2, 3, 4))
	isReceiver(t, false, hears(3, 1, 0, 1, 2, 3))
}

// P22.1: several ahead: rising, turned about, the same number twice.
func TestAheadRises(t *testing.T) {
	for _, a := range []uint64{6, 7, 8, 9, 10} {
		for _, b := range []uint64{6, 7, 8, 9, 10} {
			isReceiver(t, a < b, hears(8, 5, 2, a, b))
			for _, c := range []uint64{6, 7, 8, 9, 10} {
				isReceiver(t, a < b && b < c, hears(8, 5, 2, a, b, c))
			}
		}
	}
	isReceiver(t, true, hears(8, 5, 0, 6, 7, 8, 9, 10, 11, 12))
	isReceiver(t, false, hears(8, 5, 0, 6, 7, 8, 9, 10, 11, 12, 12))
	isReceiver(t, false, hears(8, 5, 0, 6, 7, 8, 8, 10, 11, 12))
}

// P22.1: a batch ahead that may not be, an end at each place; an end in the Buffer beside something ahead.
func TestBatchesAhead(t *testing.T) {
	wrong := []api.Batch{{}, {Count: 1}, {Rows: list("1"), Count: 1}, {Rows: list("1 / 2 / 3 / 4 / 5")}, {Rows: wrongRows()[:1]}, {Rows: list("1"), End: true}, end(math.MaxUint64)}
	numbers := []uint64{7, 8, 10, 12}
	for count := 1; count <= len(numbers); count++ {
		for at, n := range numbers[:count] {
			isReceiver(t, at == count-1, changing(hears(8, 5, 0, numbers[:count]...), func(r *api.Receiver) { r.Ahead[at].Batch = endOf(n) }))
			for _, b := range append(wrong, end(n), end(n-2)) {
				isReceiver(t, false, changing(hears(8, 5, 0, numbers[:count]...), func(r *api.Receiver) { r.Ahead[at].Batch = b }))
			}
		}
	}
	for had := 1; had < api.MaxHold; had++ {
		r := changing(hears(8, 9, had), func(r *api.Receiver) { r.Buffer[had-1] = endOf(8) })
		isReceiver(t, true, r)
		r.Ahead = held(10)
		isReceiver(t, false, r)
		r.Ahead[0].Batch = endOf(10)
		isReceiver(t, false, r)
		r.Buffer[had-1] = of(8)
		isReceiver(t, had < 7, r) // else the limit is 9
	}
}

// P22.1: Over, with something in the Buffer, something ahead, each Next.
func TestOverOfReceiver(t *testing.T) {
	over := func(r api.Receiver) api.Receiver {
		r.Over = true
		return r
	}
	for room := 1; room <= api.MaxHold; room++ {
		for next, may := range map[uint64]bool{0: false, 1: false, 2: true, 3: true, api.MaxSeq: true, api.MaxSeq + 1: true, api.MaxSeq + 2: false} {
			isReceiver(t, may, over(hears(room, next, 0)))
		}
		isReceiver(t, false, over(hears(room, 5, 1)))
		isReceiver(t, false, over(hears(room, 5, 0, 6)))
		isReceiver(t, false, over(changing(hears(room, 5, 1), func(r *api.Receiver) { r.Buffer[0] = endOf(4) })))
		isReceiver(t, false, over(changing(hears(room, 5, 0, 6), func(r *api.Receiver) { r.Ahead[0].Batch = endOf(6) })))
	}
	isReceiver(t, false, over(hears(8, 5, 2, 6, 7)))
}

// fewReceivers are all that may be of a few numbers: each Room, each Buffer, with all sets of numbers ahead, with an end and without.
func fewReceivers() (l []api.Receiver) {
	for _, next := range []uint64{1, 2, 4, 20, api.MaxSeq - 2, api.MaxSeq + 1} {
		for _, room := range []int{1, 2, 3, 5, api.MaxHold} {
			for had := 0; had <= room && uint64(had) < next; had++ {
				for set := range 1 << max(room-had-1, 0) {
					r := hears(room, next, had)
					for k := range room {
						if set>>k&1 == 1 {
							r.Ahead = append(r.Ahead, held(next+1+uint64(k))...)
						}
					}
					l = append(l, r)
					if k := len(r.Ahead) - 1; k >= 0 {
						l = append(l, changing(r, func(r *api.Receiver) { r.Ahead[k].Batch = endOf(r.Ahead[k].Seq) }))
					} else if had > 0 {
						l = append(l, changing(r, func(r *api.Receiver) { r.Buffer[had-1] = endOf(next - 1) }))
					} else {
						l = append(l, changing(r, func(r *api.Receiver) { r.Over = true }))
					}
				}
			}
		}
	}
	var may []api.Receiver
	for _, r := range l {
		if receiverByRule(r) == api.OK {
			may = append(may, r)
		}
	}
	return may
}

// P22.1: all of a few numbers, and each of them with one thing changed.
func TestReceiversByRule(t *testing.T) {
	deeds := []func(r *api.Receiver){
		func(r *api.Receiver) {}, func(r *api.Receiver) { r.Next++ }, func(r *api.Receiver) { r.Next-- }, func(r *api.Receiver) { r.Room++ }, func(r *api.Receiver) { r.Room-- },
		func(r *api.Receiver) { r.Over = !r.Over }, func(r *api.Receiver) { r.Ahead = append(r.Ahead[:len(r.Ahead):len(r.Ahead)], held(r.Next+3)...) }, func(r *api.Receiver) { r.Buffer = r.Buffer[:max(len(r.Buffer)-1, 0)] },
		func(r *api.Receiver) { r.Buffer = append(r.Buffer[:len(r.Buffer):len(r.Buffer)], of(3)) }, func(r *api.Receiver) { r.Buffer = append(r.Buffer[:len(r.Buffer):len(r.Buffer)], endOf(r.Next-1)) },
	}
	may := 0
	for _, r := range fewReceivers() {
		for _, deed := range deeds {
			x := r
			deed(&x)
			e := receiverByRule(x)
			isReceiver(t, e == api.OK, x)
			if e == api.OK {
				may++
			}
		}
	}
	if all := len(fewReceivers()); all < 1500 || may < 3*all || may > 8*all {
		t.Error(all, may)
	}
}
