package frame_test

import (
	"bytes"
	"math"
	"strings"
	"testing"

	"bowsprit/api"
	"bowsprit/frame"
)

// P23.1, P23.2: the chapter's examples, with the bytes that seal them.
func TestChapter(t *testing.T) {
	examples := []struct {
		m           api.Msg
		bytes, seal string
	}{
		{api.Msg{Kind: api.MsgHave, From: 2, To: 0, Epoch: 3}, "02 02 00 03", "BF C9 3F AB"},
		{api.Msg{Kind: api.MsgFail, From: 1, To: 0, Epoch: 1, Err: api.ErrOver}, "05 01 00 01 01", "E5 16 AA A1"},
		{api.Msg{Kind: api.MsgAck, From: 2, To: 1, Epoch: 3, Frag: 4, Packet: api.Packet{Kind: api.PkAck, Session: 3, Seq: 2, Limit: 9}}, "04 02 01 03 04 00 00 00 03 00 00 00 00 00 00 00 02 00 00 00 00 00 00 00 09", "05 33 DB 04"},
	}
	for _, x := range examples {
		lays(t, x.m, unhex(x.bytes))
		if got, e := frame.Encode(x.m); e != api.OK || !bytes.Equal(got, unhex(x.bytes+x.seal)) {
			t.Errorf("Encode(%v): %x, %v", x.m, got, e)
		}
		if !frame.Same(x.m, x.m) {
			t.Errorf("%v is not the same as itself", x.m)
		}
	}
}

// P23.1, P23.2: each Kind's bytes.
func TestBytesOfKinds(t *testing.T) {
	lays(t, api.Msg{Kind: api.MsgHave, From: 8, To: 8, Epoch: 12}, unhex("02 08 08 0C"))
	lays(t, api.Msg{Kind: api.MsgDrop, From: 0, To: 7, Epoch: 1}, unhex("06 00 07 01"))
	lays(t, api.Msg{Kind: api.MsgGone, From: 7, To: 0, Epoch: 2}, unhex("07 07 00 02"))
	lays(t, failMsg(api.ErrFault), unhex("05 02 01 03 00"))
	lays(t, failMsg(api.ErrOver), unhex("05 02 01 03 01"))
	lays(t, ackMsg(29, ack(0x01020304, 0x05060708090A>>8, 0x0B0C0D0E0F10>>8)), unhex("04 02 01 03 1D 01020304 0000000506070809 0000000B0C0D0E0F"))
	lays(t, dataMsg(1, end(0x7FFFFFFF, 1)), unhex("03 02 01 03 01 7FFFFFFF 0000000000000001 01 0000000000000000"))
	lays(t, dataMsg(1, end(5, 1<<40)), unhex("03 02 01 03 01 00000005 0000010000000000 01 000000FFFFFFFFFF"))
	lays(t, dataMsg(0, data(1, 2, ".")), unhex("03 02 01 03 00 00000001 0000000000000002 00 0001 00"))
	lays(t, dataMsg(0, data(1, 2, "NULL -1 'ab / 258")), unhex("03 02 01 03 00 00000001 0000000000000002 00 0002 03 00 02FFFFFFFFFFFFFFFF 03026162 01 020000000000000102"))
	p := data(1, 2, "1")
	p.Batch.Rows[0] = api.Row{yes, no, sumOf(-2, 3)}
	lays(t, dataMsg(0, p), unhex("03 02 01 03 00 00000001 0000000000000002 00 0001 03 0101 0100 04 FFFFFFFFFFFFFFFE 0000000000000003"))
	lays(t, planMsg(8, small()), unhex("01 02 01 03 08 02  01 03 00 01 01 00 01 02  02 04 00 01 09 00 01 02"))
}

// P23.3: each Op's bytes.
func TestBytesOfOps(t *testing.T) {
	k, both := "01 00 01 02", "01 00 02 02 03" // scans of t, of a number, of a number and a text
	ops := []struct {
		nodes []api.LNode
		bytes string
	}{
		{[]api.LNode{scan(0, ki)}, "01" + k},
		{[]api.LNode{scan(3, kt, kb, ki, ki)}, "01 01 03 04 03 01 02 02"},
		{[]api.LNode{input(29, kn, ks, kt)}, "01 09 1D 03 00 04 03"},
		{[]api.LNode{scan(0, ki), scan(0, ki), join(lit(yes))}, "03" + k + k + "02 00 0001 01 01 01"},
		{[]api.LNode{scan(0, ki), scan(0, ki), leftJoin(eq(1, 0))}, "03" + k + k + "02 01 0003 02 01 02 00 10"},
		{[]api.LNode{scan(0, ki), filter(on(api.NLt, col(0), num(-1)))}, "02" + k + "03 0003 02 00 01 02FFFFFFFFFFFFFFFF 12"},
		{[]api.LNode{scan(0, ki, kt), group([]int{1, 0})}, "02" + both + "04 02 01 00 00"},
		{[]api.LNode{scan(0, ki), group(nil, agg(api.AggAll), agg(api.AggSum, col(0)))}, "02" + k + "04 00 02 01 0000 03 0001 02 00"},
		{[]api.LNode{scan(0, ki), project(lit(text("a'")), on(api.NNeg, col(0)))}, "02" + k + "05 02 0001 01 03026127 0002 02 00 04"},
		{[]api.LNode{scan(0, ki), distinct()}, "02" + k + "06"},
		{[]api.LNode{scan(0, ki), scan(0, ki), union()}, "03" + k + k + "07"},
		{[]api.LNode{scan(0, ki), sortBy(-1)}, "02" + k + "08 00 00000000"},
		{[]api.LNode{scan(0, ki, kt), sortBy(math.MaxInt32, api.Ord{Col: 1, Desc: true}, api.Ord{})}, "02" + both + "08 02 01 01 00 00 80000000"},
		{[]api.LNode{scan(0, ki), sortBy(0x010203)}, "02" + k + "08 00 00010204"},
		{[]api.LNode{scan(0, ki, kt), partial([]int{0}, agg(api.AggMin, col(1)), agg(api.AggCount, lit(null)))}, "02" + both + "0A 01 00 02 04 0001 02 01 02 0001 01 00"},
		{[]api.LNode{input(2, ki, ks), final(1, api.AggSum)}, "02 09 02 02 02 04 0B 01 00 01 03 0000"},
	}
	for _, x := range ops {
		laysPlan(t, planOf(api.Frag{Nodes: steps(x.nodes...), At: api.AtOne, Way: api.WayCast}), unhex("01 02 02 00"+x.bytes))
		two := planOf(by([]int{15, 0}, x.nodes...), api.Frag{Nodes: steps(x.nodes...), At: api.AtAll, Way: api.WayRoot})
		laysPlan(t, two, unhex("02 01 01 02 0F 00"+x.bytes+"01 04 00"+x.bytes))
	}
}

// P23.1 to P23.3: bytes that are written out for a whole message with a plan of two fragments.
func TestBytesOfPlan(t *testing.T) {
	p := planOf(
		by([]int{1}, scan(0, ki, kt), filter(on(api.NIsNull, col(0))), partial([]int{1}, agg(api.AggAll), agg(api.AggSum, on(api.NMul, col(0), num(2))))),
		onOne(input(0, kt, ki, ks), final(1, api.AggAll, api.AggSum), sortBy(9, api.Ord{Col: 2, Desc: true})),
	)
	want := strings.Join([]string{
		"01 02 01 03 05 02",
		"01 01 01 01 03", "01 00 02 02 03", "03 0002 02 00 06", "0A 01 01 02 01 0000 03 0003 02 00 01 02 0000000000000002 0E",
		"02 04 00 03", "09 00 03 03 02 04", "0B 01 00 02 01 0000 03 0000", "08 01 02 01 0000000A",
	}, "")
	lays(t, planMsg(5, p), unhex(want))
	laysPlan(t, p, unhex(want)[5:])
}
