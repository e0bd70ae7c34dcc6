package frame_test

import (
	"bytes"
	"slices"
	"testing"

	"bowsprit/api"
	"bowsprit/frame"
)

// opens holds what Decode says of bytes, with nothing beside an error.
func opens(t *testing.T, b []byte, want api.Errno) {
	t.Helper()
	if got, e := frame.Decode(b); e != want || e != api.OK && !same(got, api.Msg{}) {
		t.Errorf("Decode(%x): %v, %v, not %v", b, got, e, want)
	}
}

// P23.2: fewer than four bytes; four and more, whose sum is wrong, or is right, but of no message.
func TestFewBytes(t *testing.T) {
	for _, b := range [][]byte{nil, {}, {0}, {2}, {0, 0}, {0, 0, 0}, {2, 2, 0}} {
		opens(t, b, api.ErrShort)
	}
	for _, b := range [][]byte{{0, 0, 0, 1}, {1, 0, 0, 0}, {2, 2, 0, 3}, {0, 0, 0, 0, 0}} {
		opens(t, b, api.ErrSum)
	}
	opens(t, []byte{0, 0, 0, 0}, api.ErrFrame)
	for _, m := range eachKind() {
		b := layMsg(m)
		for count := range 4 {
			opens(t, seal(b[:count]), api.ErrFrame)
			opens(t, b[:count], api.ErrShort)
		}
	}
}

// P23.3: of a plan there is no sum, and no other error.
func TestFewBytesOfPlan(t *testing.T) {
	for _, b := range [][]byte{nil, {}, {0}, {1}, {30}, {31}, {1, 1, 1}, {1, 1, 1, 0}, {0, 0, 0, 0}, {255, 255, 255, 255}, seal(layPlan(small()))} {
		noPlan(t, b)
		if got, e := frame.DecodePlan(b); e != api.ErrFrame || !same(got, api.Plan{}) {
			t.Errorf("DecodePlan(%x): %v, %v", b, got, e)
		}
	}
}

// P23.2: a sum that is wrong goes ahead of what is no message; each of its bits counts.
func TestWrongSum(t *testing.T) {
	for _, m := range append(eachKind(), api.Msg{}, bare(8), dataMsg(30, end(1, 1))) {
		b := seal(layMsg(m))
		for place := len(b) - 4; place < len(b); place++ {
			for bit := range 8 {
				wrong := slices.Clone(b)
				wrong[place] ^= 1 << bit
				opens(t, wrong, api.ErrSum)
			}
		}
		turned := slices.Clone(b)
		slices.Reverse(turned[len(b)-4:])
		opens(t, turned, api.ErrSum)
		opens(t, b[:len(b)-1], api.ErrSum)
		opens(t, append(slices.Clone(b), 0), api.ErrSum)
		opens(t, append([]byte{0}, b...), api.ErrSum)
	}
}

// several are messages with something of all that there is.
func several() []api.Msg {
	p := planOf(
		by([]int{1, 0}, scan(0, ki, kt), filter(on(api.NAnd, lit(yes), on(api.NLt, col(1), lit(text("ab"))))), scan(1, kb), leftJoin(lit(null)), partial([]int{1}, agg(api.AggAll), agg(api.AggSum, num(258)))),
		api.Frag{Nodes: steps(input(0, kt, ki, ks), final(1, api.AggAll, api.AggSum), distinct(), input(1, kt, ki, ki), union(), group([]int{1}), project(col(0), on(api.NNeg, col(0)))), At: api.AtAll, Way: api.WayCast},
		onOne(input(1, ki, kn), sortBy(9, api.Ord{Col: 1, Desc: true}, api.Ord{})),
	)
	rows := data(7, 258, "5 'ab' NULL / . / 1")
	rows.Batch.Rows = append(rows.Batch.Rows, api.Row{yes, sumOf(-3, 1<<63)})
	return []api.Msg{planMsg(8, p), dataMsg(29, rows), dataMsg(0, data(api.MaxSession, api.MaxSeq, "'"))}
}

// P23.2, P23.3: bytes that are cut at each place, or have one behind, are no message's and no plan's.
func TestCutAndLonger(t *testing.T) {
	for _, m := range append(eachKind(), several()...) {
		b := layMsg(m)
		for count := range b {
			noMsg(t, b[:count])
			opens(t, seal(b)[:count], map[bool]api.Errno{true: api.ErrShort, false: api.ErrSum}[count < 4])
		}
		for c := range 256 {
			noMsg(t, append(slices.Clone(b), byte(c)))
			noMsg(t, append([]byte{byte(c)}, b...))
		}
		noMsg(t, slices.Concat(b, b), seal(b))
		if m.Kind != api.MsgPlan {
			continue
		}
		p := layPlan(m.Plan)
		for count := range p {
			noPlan(t, p[:count])
		}
		for c := range 256 {
			noPlan(t, append(slices.Clone(p), byte(c)))
		}
		noPlan(t, slices.Concat(p, p))
	}
}

// put has some bytes stand at a place instead of those that stood there.
func put(b []byte, at int, others ...byte) []byte {
	b = slices.Clone(b)
	copy(b[at:], others)
	return b
}

// P23.2: numbers at the ends of their bytes: a Session, a Seq, a Limit, a Count.
func TestNumbersAtTheirEnds(t *testing.T) {
	full, high := bytes.Repeat([]byte{255}, 8), []byte{128, 0, 0, 0, 0, 0, 0, 0}
	rows, ends, acks := layMsg(dataMsg(4, data(7, 1, "5"))), layMsg(dataMsg(4, end(7, 1))), layMsg(ackMsg(4, ack(7, 1, 1)))
	for _, b := range [][]byte{rows, ends, acks} {
		noMsg(t, put(b, 5, 255, 255, 255, 255), put(b, 5, 128, 0, 0, 0), put(b, 5, 0, 0, 0, 0))
		noMsg(t, put(b, 9, full...), put(b, 9, high...), put(b, 9, make([]byte, 8)...), put(b, 9, 0, 0, 1, 0, 0, 0, 0, 2))
		if e := isRead(t, put(b, 5, 127, 255, 255, 255)); e != api.OK {
			t.Error(e)
		}
	}
	noMsg(t, put(acks, 17, full...), put(acks, 17, high...), put(acks, 17, 0, 0, 1, 0, 0, 0, 0, 1), put(acks, 9, 0, 0, 0, 0, 0, 0, 0, 3))
	noMsg(t, put(ends, 18, full...), put(ends, 18, high...), put(ends, 18, 0, 0, 0, 0, 0, 0, 0, 1), put(rows, 9, 0, 0, 1, 0, 0, 0, 0, 1))
	noMsg(t, put(ends, 9, slices.Concat(make([]byte, 8), []byte{1}, full)...)) // a Count that is one less than a Seq of 0
	for _, b := range [][]byte{put(rows, 9, 0, 0, 1, 0, 0, 0, 0, 0), put(acks, 17, 0, 0, 1, 0, 0, 0, 0, 0), put(acks, 17, 0, 0, 0, 0, 0, 0, 0, 0)} {
		if e := isRead(t, b); e != api.OK {
			t.Errorf("%x: %v", b, e)
		}
	}
	sorts := layMsg(planMsg(1, one(steps(scan(0, ki), sortBy(-1)))))
	at := len(sorts) - 4
	for _, last := range [][]byte{{128, 0, 0, 1}, {255, 255, 255, 255}, {255, 255, 255, 254}, {192, 0, 0, 0}} {
		noMsg(t, put(sorts, at, last...))
	}
	for _, last := range [][]byte{{128, 0, 0, 0}, {127, 255, 255, 255}, {0, 0, 0, 1}} {
		if e := isRead(t, put(sorts, at, last...)); e != api.OK {
			t.Errorf("%x: %v", last, e)
		}
	}
}

// P23.2: flags, of which there are just two.
func TestFlags(t *testing.T) {
	joins := layMsg(planMsg(1, one(steps(scan(0, ki), scan(0, ki), join(lit(yes))))))
	sorts := layMsg(planMsg(1, one(steps(scan(0, ki), sortBy(3, api.Ord{})))))
	fails := layMsg(failMsg(api.ErrFault))
	ends := layMsg(dataMsg(4, end(7, 1)))
	rows := layMsg(dataMsg(4, ofRows(api.Row{yes})))
	places := []struct {
		b  []byte
		at int
	}{{joins, len(joins) - 6}, {sorts, len(sorts) - 5}, {fails, 4}, {ends, 17}, {rows, len(rows) - 1}}
	for _, x := range places {
		for _, c := range []byte{2, 3, 127, 128, 254, 255} {
			noMsg(t, put(x.b, x.at, c))
		}
		if e := isRead(t, put(x.b, x.at, 1)); e != api.OK {
			t.Errorf("%x at %v: %v", x.b, x.at, e)
		}
	}
}

// P23.2: rows that may not be, and too many of them; none.
func TestRowsOfBytes(t *testing.T) {
	head := layMsg(dataMsg(4, data(7, 2, ".")))[:18]
	body := func(s string) []byte { return append(slices.Clone(head), unhex(s)...) }
	for _, s := range []string{
		"", "00", "0000", "0001", "0001 01", "0001 11" + "00000000000000000000000000000000 00", "0001 01 05", "0001 01 FF", "0001 01 01", "0001 01 01 02", "0001 01 02 00000000000000", "0001 01 03", "0001 01 03 01", "0001 01 03 29",
		"0001 01 04 0000000000000000", "0005 00 00 00 00 00", "0005 00 00 00 00", "0190", "0191", "FFFF", "0100 00", "0001 00 00", "0002 00", "0004 00 00 00",
	} {
		noMsg(t, body(s))
	}
	noMsg(t, body("0190"+string(bytes.Repeat([]byte("00"), 400))), body("0191"+string(bytes.Repeat([]byte("00"), 401))), body("0001 01 03 29"+string(bytes.Repeat([]byte("61"), 41))))
	for _, s := range []string{"0001 00", "0004 00 00 00 00", "0001 10" + "00000000000000000000000000000000", "0001 01 03 28" + string(bytes.Repeat([]byte("61"), 40)), "0001 01 04 0000000000000000 FFFFFFFFFFFFFFFF", "0001 01 01 01"} {
		if e := isRead(t, body(s)); e != api.OK {
			t.Errorf("%v: %v", s, e)
		}
	}
}

// P23.2, P23.3: plans whose counts are too great or too small, whose nodes make no tree, or several; what is no Op, no Tag.
func TestPlansOfBytes(t *testing.T) {
	k := "01 00 01 02" // a scan
	for _, s := range []string{
		"00", "00 01 03 00 01" + k, "1F", "FF 01 03 00 01" + k, "02 01 03 00 01" + k, "01 01 03 00 00", "01 01 03 00 02" + k, "01 01 03 00 01" + k + k, "01 01 03 00 02" + k + k, "01 01 03 00 FF" + k,
		"01 00 03 00 01" + k, "01 03 03 00 01" + k, "01 FF 03 00 01" + k, "01 01 00 00 01" + k, "01 01 05 00 01" + k, "01 01 FF 00 01" + k, "01 01 01 01 10 01" + k, "01 01 01 01 FF 01" + k, "01 01 01 02 00 01" + k, "01 01 01 FF 00 01" + k,
		"01 01 03 11" + "0000000000000000000000000000000000 01" + k,
		"01 01 03 00 01 00", "01 01 03 00 02" + k + "00", "01 01 03 00 02" + k + "0C", "01 01 03 00 02" + k + "FF", "01 01 03 00 01 06", "01 01 03 00 01 07", "01 01 03 00 02" + k + "07", "01 01 03 00 02 06" + k, "01 01 03 00 03" + k + k + "06", "01 01 03 00 04" + k + k + k + "07",
		"01 01 03 00 01 01 00 00", "01 01 03 00 01 01 00 05 02 02 02 02 02", "01 01 03 00 01 01 00 FF 02", "01 01 03 00 01 01 04 01 02", "01 01 03 00 01 01 FF 01 02", "01 01 03 00 01 01 00 01 00", "01 01 03 00 01 01 00 01 04", "01 01 03 00 01 01 00 02 02",
		"01 01 03 00 01 09 1E 01 02", "01 01 03 00 01 09 00 01 05", "01 01 03 00 01 09 00 00", "01 01 03 00 01 09 00 11" + "0202020202020202020202020202020202",
		"01 01 03 00 02" + k + "03 0000", "01 01 03 00 02" + k + "03 0001", "01 01 03 00 02" + k + "03 0001 00", "01 01 03 00 02" + k + "03 0001 03", "01 01 03 00 02" + k + "03 0001 08", "01 01 03 00 02" + k + "03 0001 18", "01 01 03 00 02" + k + "03 0001 FF", "01 01 03 00 02" + k + "03 0001 06", "01 01 03 00 02" + k + "03 0002 02 00 16",
		"01 01 03 00 02" + k + "03 0002 02 00 02 00", "01 01 03 00 02" + k + "03 0002 02 00", "01 01 03 00 02" + k + "03 0003 02 00 06", "01 01 03 00 02" + k + "03 0001 02 00 06", "01 01 03 00 02" + k + "03 FFFF 02 00 06", "01 01 03 00 02" + k + "03 0102 02 00 06", "01 01 03 00 02" + k + "03 0002 06 02 00", "01 01 03 00 02" + k + "03 0002 02 01 06",
		"01 01 03 00 02" + k + "03 0002 02 10 06", "01 01 03 00 02" + k + "03 0001 01 04 0000000000000000 0000000000000000", "01 01 03 00 02" + k + "03 0002 01 04 0000000000000000 0000000000000000 06", "01 01 03 00 02" + k + "03 0001 01 01 02", "01 01 03 00 02" + k + "03 0001 01 05", "01 01 03 00 02" + k + "03 0001 01", "01 01 03 00 02" + k + "03 0001 01 01",
		"01 01 03 00 02" + k + "04 00 00", "01 01 03 00 02" + k + "04 04 00 00 00 00 00", "01 01 03 00 02" + k + "04 01 01 00", "01 01 03 00 02" + k + "04 00 01 00 0000", "01 01 03 00 02" + k + "04 00 01 06 0000", "01 01 03 00 02" + k + "04 00 01 01 0001 02 00", "01 01 03 00 02" + k + "04 00 01 02 0000", "01 01 03 00 02" + k + "04 00 01 01", "01 01 03 00 02" + k + "04 00 02 01 0000", "01 01 03 00 02" + k + "04 00 0D" + string(bytes.Repeat([]byte("010000"), 13)),
		"01 01 03 00 02" + k + "05 00", "01 01 03 00 02" + k + "05 01 0000", "01 01 03 00 02" + k + "05 02 0001 02 00", "01 01 03 00 02" + k + "05 11" + string(bytes.Repeat([]byte("00010200"), 17)), "01 01 03 00 02" + k + "05 FF 0001 02 00",
		"01 01 03 00 02" + k + "08 04 00 00 00 00 00 00 00 00 00000000", "01 01 03 00 02" + k + "08 01 01 00 00000000", "01 01 03 00 02" + k + "08 01 00 02 00000000", "01 01 03 00 02" + k + "08 01 00 FF 00000000", "01 01 03 00 02" + k + "08 00 000000", "01 01 03 00 03" + k + "08 00 00000000 06", "01 01 03 00 02" + k + "0A 00 00", "01 01 03 00 02" + k + "0B 01 00 00",
	} {
		noPlan(t, unhex(s))
	}
	for _, s := range []string{"01 01 03 00 01" + k, "01 01 03 00 02" + k + "06", "01 01 03 00 02" + k + "03 0002 02 00 06", "01 01 03 00 02" + k + "04 00 0C" + string(bytes.Repeat([]byte("010000"), 12)), "01 01 03 00 02" + k + "05 10" + string(bytes.Repeat([]byte("00010200"), 16))} {
		if e := isReadPlan(t, unhex(s)); e != api.OK {
			t.Errorf("%v: %v", s, e)
		}
	}
}
