package link_test

import (
	"math"
	"testing"

	"bowsprit/api"
)

// sessions are such as may be, and such as may not.
func sessions() map[uint32]bool {
	return map[uint32]bool{0: false, 1: true, 2: true, own: true, api.MaxSession - 1: true, api.MaxSession: true, api.MaxSession + 1: false, math.MaxUint32 - 1: false, math.MaxUint32: false}
}

// far are numbers far above all that there may be.
func far() []uint64 {
	return []uint64{api.MaxSeq + 2, api.MaxSeq + 3, 1 << 41, 1<<41 + 1, 1 << 63, 1<<63 + 1, math.MaxUint64 - 1, math.MaxUint64}
}

// P22.1: sessions of packets.
func TestSessionOfPacket(t *testing.T) {
	for session, may := range sessions() {
		for _, p := range []api.Packet{data(1, of(1)), data(1, end(0)), data(9, end(8)), ack(1, 0), ack(4, 9)} {
			p.Session = session
			isPacket(t, may, p)
		}
	}
}

// P22.1: numbers of a PkData, with rows, and with an end.
func TestNumberOfData(t *testing.T) {
	for n, may := range map[uint64]bool{0: false, 1: true, 2: true, 3: true, 1 << 32: true, api.MaxSeq - 1: true, api.MaxSeq: true, api.MaxSeq + 1: false} {
		isPacket(t, may, data(n, rows("1")))
		isPacket(t, may, data(n, end(n-1)))
	}
	for _, n := range far() {
		isPacket(t, false, data(n, rows("1")))
		isPacket(t, false, data(n, end(n-1)))
	}
}

// P22.1: how many rows a batch may have.
func TestCountOfRows(t *testing.T) {
	for count := range api.MaxBatch + 4 {
		b := api.Batch{}
		for range count {
			b.Rows = append(b.Rows, list("1 'a'")...)
		}
		for _, n := range []uint64{1, 5, api.MaxSeq} {
			isPacket(t, count > 0 && count <= api.MaxBatch, data(n, b))
		}
	}
	isPacket(t, false, data(1, api.Batch{Rows: []api.Row{}}))
	isPacket(t, false, data(1, api.Batch{Rows: make([]api.Row, 1<<16)}))
}

// P22.1: rows that may be, and such as may not, at each place.
func TestRowsOfBatch(t *testing.T) {
	for count := 1; count <= api.MaxBatch; count++ {
		for at := range count {
			for _, r := range goodRows() {
				isPacket(t, true, data(3, changing(api.Batch{Rows: make([]api.Row, count)}, func(b *api.Batch) { b.Rows[at] = r })))
			}
			for _, r := range wrongRows() {
				isPacket(t, false, data(3, changing(api.Batch{Rows: make([]api.Row, count)}, func(b *api.Batch) { b.Rows[at] = r })))
			}
		}
	}
}

// P22.1: a batch with rows and a Count, an end with rows, an end with another Count than that of those ahead of it.
func TestEndOfBatches(t *testing.T) {
	for _, n := range []uint64{1, 2, 3, 8, 1 << 32, api.MaxSeq - 1, api.MaxSeq} {
		isPacket(t, true, data(n, of(n)))
		isPacket(t, true, data(n, end(n-1)))
		for _, count := range []uint64{1, 2, n - 2, n - 1, n, n + 1, api.MaxSeq, math.MaxUint64} {
			isPacket(t, count == 0, data(n, api.Batch{Rows: list("1"), Count: count}))
			isPacket(t, count == n-1, data(n, end(count)))
			isPacket(t, false, data(n, api.Batch{Rows: list("1"), End: true, Count: count}))
			isPacket(t, false, data(n, api.Batch{Count: count}))
		}
		isPacket(t, n == 1, data(n, end(0)))
		isPacket(t, false, data(n, api.Batch{Rows: list("1"), End: true}))
		isPacket(t, false, data(n, api.Batch{Rows: wrongRows()[:1], End: true, Count: n - 1}))
		isPacket(t, true, data(n, api.Batch{Rows: []api.Row{}, End: true, Count: n - 1}))
	}
}

// P22.1: numbers of a PkAck, and limits from two less than these on.
func TestNumberAndLimitOfAck(t *testing.T) {
	isPacket(t, false, ack(0, 0))
	isPacket(t, false, ack(0, 5))
	isPacket(t, false, ack(0, math.MaxUint64))
	for _, n := range []uint64{1, 2, 3, 1 << 32, api.MaxSeq - 1, api.MaxSeq, api.MaxSeq + 1} {
		isPacket(t, false, ack(n, n-2)) // of 1 this is far too much
		isPacket(t, true, ack(n, n-1))
		isPacket(t, n <= api.MaxSeq, ack(n, n))
		isPacket(t, n < api.MaxSeq, ack(n, n+1))
		isPacket(t, true, ack(n, api.MaxSeq))
		isPacket(t, false, ack(n, api.MaxSeq+1))
		for _, limit := range far() {
			isPacket(t, false, ack(n, limit))
		}
	}
	isPacket(t, false, ack(5, 0))
	for _, n := range far() {
		for _, limit := range []uint64{0, n - 2, n - 1, n, api.MaxSeq, api.MaxSeq + 1} {
			isPacket(t, false, ack(n, limit))
		}
	}
}

// P22.1: what does not count is zero.
func TestWhatDoesNotCount(t *testing.T) {
	for _, limit := range []uint64{1, 3, 4, api.MaxSeq, math.MaxUint64} {
		for _, b := range []api.Batch{of(4), end(3)} {
			isPacket(t, false, changing(data(4, b), func(p *api.Packet) { p.Limit = limit }))
		}
	}
	for _, b := range []api.Batch{of(4), end(3), {End: true}, {Count: 1}, {Count: 3}, {Rows: list(".")}, {Rows: wrongRows()[:1]}} {
		isPacket(t, false, changing(ack(4, 3), func(p *api.Packet) { p.Batch = b }))
		isPacket(t, false, changing(ack(4, 9), func(p *api.Packet) { p.Batch = b }))
	}
	p := ack(4, 9)
	p.Batch.Rows = []api.Row{}
	isPacket(t, true, p)
	isPacket(t, false, changing(ack(1, 9), func(p *api.Packet) { p.Batch = end(0) }))
}

// P22.1: each other Kind.
func TestKindOfPacket(t *testing.T) {
	for _, kind := range []int{math.MinInt, -2, -1, 0, 3, 4, 256 + api.PkData, 1<<32 + api.PkAck, math.MaxInt} {
		for _, p := range []api.Packet{data(1, of(1)), data(1, end(0)), ack(1, 0), ack(1, 5), {Session: own, Seq: 1}} {
			p.Kind = kind
			isPacket(t, false, p)
		}
	}
	isPacket(t, false, changing(data(2, of(2)), func(p *api.Packet) { p.Kind = api.PkAck }))
	isPacket(t, false, changing(data(2, end(1)), func(p *api.Packet) { p.Kind = api.PkAck }))
	isPacket(t, false, changing(ack(2, 5), func(p *api.Packet) { p.Kind = api.PkData }))
	isPacket(t, false, api.Packet{})
}
