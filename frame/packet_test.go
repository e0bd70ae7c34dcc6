package frame_test

import (
	"math"
	"slices"
	"strings"
	"testing"

	"bowsprit/api"
)

// ofRows is a packet of such rows.
func ofRows(rows ...api.Row) api.Packet {
	p := data(7, 2, "1")
	p.Batch.Rows = rows
	return p
}

// P23.1: a MsgData has no ack, a MsgAck no rows; neither has a packet of no kind.
func TestPacketOfOtherKind(t *testing.T) {
	mayNot(t, dataMsg(4, ack(7, 1, 1)), ackMsg(4, data(7, 1, "5")), ackMsg(4, end(7, 1)), dataMsg(4, api.Packet{}), ackMsg(4, api.Packet{}))
	for _, kind := range outside(api.PkData, api.PkData) {
		for _, p := range []api.Packet{data(7, 1, "5"), end(7, 1)} {
			p.Kind = kind
			mayNot(t, dataMsg(4, p))
		}
	}
	for _, kind := range outside(api.PkAck, api.PkAck) {
		p := ack(7, 1, 1)
		p.Kind = kind
		mayNot(t, ackMsg(4, p))
	}
}

// P23.1: Session from 1 to MaxSession, of 4 bytes.
func TestSession(t *testing.T) {
	for _, s := range []uint32{1, 2, 255, 256, 0x01020304, api.MaxSession - 1, api.MaxSession} {
		may(t, dataMsg(4, data(s, 1, "5")), dataMsg(4, end(s, 9)), ackMsg(4, ack(s, 2, 3)))
	}
	for _, s := range []uint32{0, api.MaxSession + 1, math.MaxUint32} {
		mayNot(t, dataMsg(4, data(s, 1, "5")), dataMsg(4, end(s, 9)), ackMsg(4, ack(s, 2, 3)))
	}
}

// P23.1: Seq from 1 to MaxSeq, of an ack one more; of 8 bytes.
func TestSeq(t *testing.T) {
	for _, n := range []uint64{1, 2, 255, 256, 0x0102030405, api.MaxSeq - 1, api.MaxSeq} {
		may(t, dataMsg(4, data(7, n, "5")), dataMsg(4, end(7, n)), ackMsg(4, ack(7, n, n)))
	}
	may(t, ackMsg(4, ack(7, api.MaxSeq+1, api.MaxSeq)))
	for _, n := range []uint64{0, api.MaxSeq + 2, 1 << 41, 1 << 63, math.MaxUint64} {
		mayNot(t, dataMsg(4, data(7, n, "5")), dataMsg(4, end(7, n)), ackMsg(4, ack(7, n, n)), ackMsg(4, ack(7, n, api.MaxSeq)))
	}
	mayNot(t, dataMsg(4, data(7, api.MaxSeq+1, "5")), dataMsg(4, end(7, api.MaxSeq+1)))
}

// P23.1: Limit of an ack from Seq less 1 to MaxSeq; none of what carries rows.
func TestLimit(t *testing.T) {
	for _, n := range []uint64{1, 2, 9, 1 << 32, api.MaxSeq} {
		may(t, ackMsg(4, ack(7, n, n-1)), ackMsg(4, ack(7, n, n)), ackMsg(4, ack(7, n, api.MaxSeq)))
		mayNot(t, ackMsg(4, ack(7, n, n-2)), ackMsg(4, ack(7, n, api.MaxSeq+1)), ackMsg(4, ack(7, n, math.MaxUint64)))
		for _, limit := range []uint64{1, n - 1, n, math.MaxUint64} {
			p, q := data(7, n, "5"), end(7, n)
			p.Limit, q.Limit = limit, limit
			if limit > 0 {
				mayNot(t, dataMsg(4, p), dataMsg(4, q))
			}
		}
	}
	mayNot(t, ackMsg(4, ack(7, api.MaxSeq+1, api.MaxSeq+1)), ackMsg(4, ack(7, api.MaxSeq+1, api.MaxSeq-1)))
}

// P23.1: an End has a Count that is one less than Seq, and no rows; else there is no Count.
func TestEnds(t *testing.T) {
	for _, n := range []uint64{1, 2, 3, 300, 1 << 33, api.MaxSeq} {
		for _, count := range []uint64{0, 1, n - 2, n - 1, n, n + 1, api.MaxSeq, math.MaxUint64} {
			p := end(7, n)
			if p.Batch.Count = count; count == n-1 {
				may(t, dataMsg(4, p))
			} else {
				mayNot(t, dataMsg(4, p))
			}
			p.Batch.Rows = list("1")
			mayNot(t, dataMsg(4, p))
			p.Batch.End = false
			if count > 0 {
				mayNot(t, dataMsg(4, p))
			}
		}
	}
}

// P23.1: acks have no batch.
func TestAckWithBatch(t *testing.T) {
	for _, b := range []api.Batch{{Rows: list("1")}, {Rows: list(".")}, {End: true}, {Count: 1}, {End: true, Count: 1}} {
		p := ack(7, 2, 9)
		p.Batch = b
		mayNot(t, ackMsg(4, p))
	}
}

// goodRows are rows that may be: of no value, of each kind, as wide as there may be.
func goodRows() []api.Row {
	return []api.Row{
		{}, nil, {null}, {yes, no}, {number(math.MinInt64), number(math.MaxInt64), number(-1)}, {text(""), text("it's"), text("\x00\xff")}, {sumOf(-1, math.MaxUint64), sumOf(math.MinInt64, 0)},
		{text(strings.Repeat("\xff", api.MaxText))}, slices.Repeat(api.Row{yes}, api.MaxWidth), slices.Repeat(api.Row{text(strings.Repeat("a", api.MaxText))}, api.MaxWidth),
	}
}

// wrongRows are rows that may not be.
func wrongRows() []api.Row {
	return []api.Row{
		{{Kind: -1}}, {{Kind: 5}}, {{Kind: 256}}, {{N: 1}}, {{S: "a"}}, {{Kind: kb, N: 2}}, {{Kind: kb, N: -1}}, {{Kind: kb, N: 257}}, {{Kind: kb, U: 1}}, {{Kind: ki, S: "5"}}, {number(1), {Kind: ki, U: 1}},
		{text(strings.Repeat("a", api.MaxText+1))}, {text(strings.Repeat("a", 256))}, {{Kind: kt, N: 1}}, {{Kind: ks, S: "a"}},
		slices.Repeat(api.Row{null}, api.MaxWidth+1), slices.Repeat(api.Row{null}, 256), append(slices.Repeat(api.Row{yes}, api.MaxWidth-1), api.Value{Kind: ks, S: "a"}),
	}
}

// P23.1: from 1 to MaxBatch rows that may be.
func TestRows(t *testing.T) {
	good := goodRows()
	for k, r := range good {
		for count := 1; count <= api.MaxBatch; count++ {
			may(t, dataMsg(4, ofRows(slices.Repeat([]api.Row{r}, count)...)))
		}
		may(t, dataMsg(4, ofRows(r, good[(k+1)%len(good)], good[(k+4)%len(good)])))
		for _, count := range []int{0, api.MaxBatch + 1, 6, 255, 256, 257, api.MaxCoded, api.MaxCoded + 1} {
			mayNot(t, dataMsg(4, ofRows(slices.Repeat([]api.Row{r}, count)...)))
		}
	}
	mayNot(t, dataMsg(4, ofRows(slices.Repeat([]api.Row{nil}, 1<<16+1)...)))
	for _, wrong := range wrongRows() {
		for place := range api.MaxBatch {
			rows := slices.Repeat([]api.Row{{number(1), null}}, api.MaxBatch)
			rows[place] = wrong
			mayNot(t, dataMsg(4, ofRows(rows...)), dataMsg(4, ofRows(rows[:place+1]...)))
		}
	}
}
