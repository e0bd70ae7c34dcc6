package octet_test

import (
	"bytes"
	"math"
	"testing"

	"bowsprit/api"
	"bowsprit/octet"
)

// width is a width of numbers with the calls that put and read it, so that each promise is asked of all of them alike.
type width struct {
	name string
	size int
	put  func([]byte, uint64) []byte
	read func(*octet.Reader) uint64
}

func widths() []width {
	return []width{
		{"16", 2, func(b []byte, x uint64) []byte { return octet.Put16(b, uint16(x)) }, func(r *octet.Reader) uint64 { return uint64(r.U16()) }},
		{"32", 4, func(b []byte, x uint64) []byte { return octet.Put32(b, uint32(x)) }, func(r *octet.Reader) uint64 { return uint64(r.U32()) }},
		{"64", 8, octet.Put64, (*octet.Reader).U64},
	}
}

// readers are the widths and U8, which is read alone.
func readers() []width {
	one := width{"8", 1, nil, func(r *octet.Reader) uint64 { return uint64(r.U8()) }}
	return append(widths(), one)
}

// max is the greatest number of a width.
func (w width) max() uint64 {
	return math.MaxUint64 >> (64 - 8*w.size)
}

// numbers are edges of a width: around each power of two, and numbers with all bytes unlike.
func (w width) numbers() []uint64 {
	l := []uint64{0x0102030405060708 & w.max(), 0xF0E1D2C3B4A59687 & w.max()}
	for k := range 8 * w.size {
		p := uint64(1) << k
		l = append(l, p-1, p, (p+1)&w.max(), w.max()-p)
	}
	return append(l, w.max())
}

// weighs is the chapter's own reckoning, apart from how the program does it.
func weighs(b []byte) uint64 {
	var x uint64
	for _, c := range b {
		x = 256*x + uint64(c)
	}
	return x
}

// count is n bytes, each another one than those ahead of it (up to 256 of them), the first ones not 0.
func count(n int) []byte {
	b := make([]byte, n)
	for k := range b {
		b[k] = byte(3*k + 1)
	}
	return b
}

// done answers a reader of 01 .. that was asked for what it has not.
func done(n int, ask func(*octet.Reader)) *octet.Reader {
	r := octet.Read(count(n))
	ask(r)
	return r
}

// P1.1: the bytes that are written out here, one by one.
func TestPutLaysTheWeightiestByteFirst(t *testing.T) {
	cases := []struct {
		got, want []byte
	}{
		{octet.Put16([]byte{9}, 256), []byte{9, 1, 0}},
		{octet.Put16(nil, 0), []byte{0, 0}},
		{octet.Put16(nil, 255), []byte{0, 255}},
		{octet.Put16([]byte{}, 0x0102), []byte{1, 2}},
		{octet.Put16(nil, math.MaxUint16), []byte{255, 255}},
		{octet.Put32(nil, 0), []byte{0, 0, 0, 0}},
		{octet.Put32([]byte{7, 8}, 0x01020304), []byte{7, 8, 1, 2, 3, 4}},
		{octet.Put32(nil, math.MaxUint32), []byte{255, 255, 255, 255}},
		{octet.Put64(nil, 2), []byte{0, 0, 0, 0, 0, 0, 0, 2}},
		{octet.Put64([]byte{6}, 0x0102030405060708), []byte{6, 1, 2, 3, 4, 5, 6, 7, 8}},
		{octet.Put64(nil, math.MaxUint64), []byte{255, 255, 255, 255, 255, 255, 255, 255}},
		{octet.Put64(nil, 1<<63), []byte{128, 0, 0, 0, 0, 0, 0, 0}},
	}
	for i, c := range cases {
		if !bytes.Equal(c.got, c.want) {
			t.Errorf("case %d: %v, not %v", i, c.got, c.want)
		}
	}
}

// P1.1: behind those of b stand so many bytes, and they weigh the number.
func TestPutWeighs(t *testing.T) {
	for _, w := range widths() {
		for _, ahead := range []int{0, 1, 5, 100} {
			for _, x := range w.numbers() {
				b := w.put(count(ahead), x)
				if len(b) != ahead+w.size || !bytes.Equal(b[:ahead], count(ahead)) || weighs(b[ahead:]) != x {
					t.Fatalf("Put%s of %d behind %d bytes: %v", w.name, x, ahead, b)
				}
			}
		}
	}
}

// P1.1: neither b nor the room behind it is written, and what is answered shares nothing with it, however much room there is.
func TestPutTouchesNothing(t *testing.T) {
	for _, w := range widths() {
		for _, length := range []int{0, 3} {
			for _, room := range []int{0, 1, w.size - 1, w.size, w.size + 1, 40} {
				whole := count(length + room)
				first := w.put(whole[:length], w.max())
				second := w.put(whole[:length], 0)
				if !bytes.Equal(whole, count(length+room)) {
					t.Fatalf("Put%s wrote into what it was handed: %v", w.name, whole)
				}
				if weighs(first[length:]) != w.max() || weighs(second[length:]) != 0 {
					t.Fatalf("Put%s: two answers share: %v, %v", w.name, first, second)
				}
				clear(whole)
				if !bytes.Equal(first[:length], count(length)) {
					t.Fatalf("Put%s kept what it was handed: %v", w.name, first)
				}
				clear(second)
				if !bytes.Equal(whole, make([]byte, length+room)) || weighs(first[length:]) != w.max() {
					t.Fatalf("Put%s: an answer shares", w.name)
				}
			}
		}
	}
}

// P1.2: each call takes its own count of bytes, from the first one on.
func TestReadGoesOnByWidth(t *testing.T) {
	r := octet.Read(count(1 + 2 + 4 + 8 + 3 + 1))
	b := count(19)
	if x := r.U8(); x != b[0] || r.Left() != 18 {
		t.Errorf("U8: %d, %d left", x, r.Left())
	}
	if x := r.U16(); uint64(x) != weighs(b[1:3]) || r.Left() != 16 {
		t.Errorf("U16: %d, %d left", x, r.Left())
	}
	if x := r.U32(); uint64(x) != weighs(b[3:7]) || r.Left() != 12 {
		t.Errorf("U32: %d, %d left", x, r.Left())
	}
	if x := r.U64(); x != weighs(b[7:15]) || r.Left() != 4 {
		t.Errorf("U64: %d, %d left", x, r.Left())
	}
	if x := r.Raw(3); !bytes.Equal(x, b[15:18]) || r.Left() != 1 {
		t.Errorf("Raw: %v, %d left", x, r.Left())
	}
	if x := r.U8(); x != b[18] || r.Left() != 0 || r.Err() != api.OK {
		t.Errorf("U8 at the end: %d, %d left, %d", x, r.Left(), r.Err())
	}
}

// P1.2: high bytes are not taken for signs, nor lost.
func TestReadEdges(t *testing.T) {
	for _, w := range readers() {
		for _, x := range w.numbers() {
			b := octet.Put64(nil, x)[8-w.size:]
			r := octet.Read(b)
			if got := w.read(r); got != x || r.Left() != 0 || r.Err() != api.OK {
				t.Fatalf("U%s of %v: %d, %d left, %d", w.name, b, got, r.Left(), r.Err())
			}
		}
	}
}

// P1.2: fewer bytes than are asked for: 0, ErrShort, and the reader stays where it is.
func TestReadTooFew(t *testing.T) {
	for _, w := range readers() {
		for left := range w.size {
			for ahead := range 3 {
				r := octet.Read(count(ahead + left))
				r.Raw(ahead)
				if x := w.read(r); x != 0 || r.Err() != api.ErrShort || r.Left() != left {
					t.Errorf("U%s with %d left behind %d: %d, %d, %d left", w.name, left, ahead, x, r.Err(), r.Left())
				}
			}
		}
	}
}

// P1.2: Raw of every count that there is, and of none.
func TestRaw(t *testing.T) {
	b := count(9)
	for ahead := range 10 {
		for n := range 10 - ahead {
			r := octet.Read(b)
			r.Raw(ahead)
			if x := r.Raw(n); !bytes.Equal(x, b[ahead:ahead+n]) || r.Left() != 9-ahead-n || r.Err() != api.OK {
				t.Errorf("Raw(%d) behind %d: %v, %d left, %d", n, ahead, x, r.Left(), r.Err())
			}
		}
	}
}

// P1.2: wrong counts, the greatest and the least of all among them.
func TestRawWrong(t *testing.T) {
	cases := []struct {
		n   int
		why api.Errno
	}{
		{5, api.ErrShort}, {6, api.ErrShort}, {math.MaxInt32, api.ErrShort}, {math.MaxInt, api.ErrShort}, {math.MaxInt - 1, api.ErrShort},
		{-1, api.ErrArg}, {-2, api.ErrArg}, {math.MinInt32, api.ErrArg}, {math.MinInt, api.ErrArg},
	}
	for _, c := range cases {
		r := octet.Read(count(6))
		r.U16()
		if x := r.Raw(c.n); len(x) != 0 || r.Err() != c.why || r.Left() != 4 {
			t.Errorf("Raw(%d) of four: %v, %d, %d left", c.n, x, r.Err(), r.Left())
		}
	}
	if r := octet.Read(nil); len(r.Raw(-1)) != 0 || r.Err() != api.ErrArg {
		t.Errorf("Raw(-1) of none: %d", r.Err())
	}
}

// P1.2: who is done for has nothing more to give, and says the first reason, whatever is asked then.
func TestDoneForStays(t *testing.T) {
	cases := []struct {
		name string
		why  api.Errno
		ask  func(*octet.Reader)
	}{
		{"U16", api.ErrShort, func(r *octet.Reader) { r.Raw(6); r.U16() }},
		{"U32", api.ErrShort, func(r *octet.Reader) { r.Raw(6); r.U32() }},
		{"U64", api.ErrShort, func(r *octet.Reader) { r.Raw(6); r.U64() }},
		{"Raw(2)", api.ErrShort, func(r *octet.Reader) { r.Raw(6); r.Raw(2) }},
		{"Raw(-1)", api.ErrArg, func(r *octet.Reader) { r.Raw(6); r.Raw(-1) }},
	}
	for _, c := range cases {
		r := done(7, c.ask)
		for range 2 {
			if r.U8() != 0 || r.U16() != 0 || r.U32() != 0 || r.U64() != 0 {
				t.Errorf("%s: a number behind it", c.name)
			}
			for _, n := range []int{0, 1, 2, -1, math.MaxInt, math.MinInt} {
				if b := r.Raw(n); len(b) != 0 {
					t.Errorf("%s: Raw(%d) behind it: %v", c.name, n, b)
				}
			}
			if r.Err() != c.why || r.Left() != 1 {
				t.Errorf("%s: %d, %d left", c.name, r.Err(), r.Left())
			}
		}
	}
}

// P1.2: U8 of what is at its end, and Raw of a wrong count there: they are done for, too.
func TestDoneForAtTheEnd(t *testing.T) {
	r := done(1, func(r *octet.Reader) { r.U8(); r.U8() })
	r.Raw(-1)
	if r.Err() != api.ErrShort || r.Left() != 0 {
		t.Errorf("U8 of none, then Raw(-1): %d, %d left", r.Err(), r.Left())
	}
	r = done(4, func(r *octet.Reader) { r.Raw(-5); r.U64() })
	if r.Err() != api.ErrArg || r.Left() != 4 || r.U8() != 0 {
		t.Errorf("Raw(-5), then U64: %d, %d left", r.Err(), r.Left())
	}
}

// P1.2: the bytes are the reader's own, and Raw's answers are the caller's.
func TestReaderSharesNothing(t *testing.T) {
	whole := count(12)
	r, other := octet.Read(whole[:8]), octet.Read(whole[:8])
	raw := r.Raw(2)
	if !bytes.Equal(whole, count(12)) {
		t.Fatalf("the bytes handed in were changed: %v", whole)
	}
	clear(whole)
	if !bytes.Equal(raw, count(2)) {
		t.Errorf("Raw hands out the caller's bytes: %v", raw)
	}
	raw = append(raw, 200, 201)
	if c, ok := r.Peek(0); c != count(8)[2] || !ok {
		t.Errorf("what was put behind Raw's answer is read: %d", c)
	}
	clear(raw)
	if b := r.Raw(6); !bytes.Equal(b, count(8)[2:]) || r.Err() != api.OK {
		t.Errorf("the reader has not bytes of its own: %v", b)
	}
	if r.U8() != 0 || r.Err() != api.ErrShort {
		t.Errorf("the reader reads what lies behind the list's end")
	}
	if b := other.Raw(8); !bytes.Equal(b, count(8)) {
		t.Errorf("two readers share: %v", b)
	}
}

// P1.2: what is done to Raw's answer is not seen by a reader that was copied ahead of it.
func TestRawIsNewMemory(t *testing.T) {
	r := octet.Read(count(6))
	before := *r
	clear(r.Raw(4))
	if b := before.Raw(6); !bytes.Equal(b, count(6)) {
		t.Errorf("Raw hands out the reader's own bytes: %v", b)
	}
}

// P1.2, P1.3: no bytes at all.
func TestReadNothing(t *testing.T) {
	for _, b := range [][]byte{nil, {}, count(4)[:0]} {
		r := octet.Read(b)
		if r == nil {
			t.Fatal("Read of nothing is nil")
		}
		if c, ok := r.Peek(0); c != 0 || ok || r.Left() != 0 || r.Err() != api.OK {
			t.Errorf("at first: %d, %v, %d left, %d", c, ok, r.Left(), r.Err())
		}
		if x := r.Raw(0); len(x) != 0 || r.Err() != api.OK {
			t.Errorf("Raw(0): %v, %d", x, r.Err())
		}
		if x := r.U8(); x != 0 || r.Err() != api.ErrShort || r.Left() != 0 {
			t.Errorf("U8: %d, %d, %d left", x, r.Err(), r.Left())
		}
	}
}

// P1.3: Peek at every place, of every reader of nine bytes, and beside all of them; nothing moves by it.
func TestPeek(t *testing.T) {
	b := count(9)
	for at := range 10 {
		r := octet.Read(b)
		r.Raw(at)
		for k := range 9 - at {
			if c, ok := r.Peek(k); c != b[at+k] || !ok {
				t.Errorf("Peek(%d) at %d: %d, %v", k, at, c, ok)
			}
		}
		for _, k := range []int{9 - at, 10 - at, 100, math.MaxInt32, math.MaxInt, math.MaxInt - at, -1, -2, -at - 1, math.MinInt32, math.MinInt} {
			if k >= 0 && k < 9-at {
				continue
			}
			if c, ok := r.Peek(k); c != 0 || ok {
				t.Errorf("Peek(%d) at %d: %d, %v", k, at, c, ok)
			}
		}
		if r.Left() != 9-at || r.Err() != api.OK {
			t.Errorf("at %d: Peek moved it: %d left, %d", at, r.Left(), r.Err())
		}
		if x := r.Raw(9 - at); !bytes.Equal(x, b[at:]) {
			t.Errorf("at %d, behind Peeks: %v", at, x)
		}
	}
}

// P1.3: who is done for shows nothing ahead, though bytes are left, and says why.
func TestPeekWhenDoneFor(t *testing.T) {
	short := done(5, func(r *octet.Reader) { r.U64() })
	wrong := done(5, func(r *octet.Reader) { r.Raw(-1) })
	for _, r := range []*octet.Reader{short, wrong} {
		for k := range 6 {
			if c, ok := r.Peek(k); c != 0 || ok {
				t.Errorf("Peek(%d): %d, %v", k, c, ok)
			}
		}
		if r.Left() != 5 {
			t.Errorf("%d left", r.Left())
		}
	}
	if short.Err() != api.ErrShort || wrong.Err() != api.ErrArg {
		t.Errorf("Err: %d, %d", short.Err(), wrong.Err())
	}
}

// P1.3: the example of the chapter.
func TestPeekExample(t *testing.T) {
	r := octet.Read([]byte{1, 2, 3})
	if c, ok := r.Peek(2); c != 3 || !ok {
		t.Errorf("Peek(2): %d, %v", c, ok)
	}
	if x := r.U16(); x != 258 {
		t.Errorf("U16: %d", x)
	}
	if c, ok := r.Peek(1); c != 0 || ok || r.Err() != api.OK {
		t.Errorf("Peek(1): %d, %v, %d", c, ok, r.Err())
	}
	if x := r.U16(); x != 0 || r.Err() != api.ErrShort || r.Left() != 1 {
		t.Errorf("U16: %d, %d, %d left", x, r.Err(), r.Left())
	}
}

// P1.2, P1.3, R4: of nil each call tells nothing, and Err ErrNil.
func TestNilReader(t *testing.T) {
	var r *octet.Reader
	if r.Err() != api.ErrNil || r.Left() != 0 {
		t.Errorf("Err, Left: %d, %d", r.Err(), r.Left())
	}
	if r.U8() != 0 || r.U16() != 0 || r.U32() != 0 || r.U64() != 0 {
		t.Error("a number of nil")
	}
	for _, n := range []int{0, 1, -1, math.MaxInt, math.MinInt} {
		if b := r.Raw(n); len(b) != 0 {
			t.Errorf("Raw(%d): %v", n, b)
		}
		if c, ok := r.Peek(n); c != 0 || ok {
			t.Errorf("Peek(%d): %d, %v", n, c, ok)
		}
	}
	if r.Err() != api.ErrNil {
		t.Errorf("Err at last: %d", r.Err())
	}
}

// P1.4: as many numbers of one width as were put are read, the same ones, and there is nothing behind them.
func TestWhatWasPutIsRead(t *testing.T) {
	for _, w := range widths() {
		var b []byte
		for _, x := range w.numbers() {
			b = w.put(b, x)
		}
		r := octet.Read(b)
		for i, x := range w.numbers() {
			if got := w.read(r); got != x {
				t.Fatalf("U%s, number %d: %d, not %d", w.name, i, got, x)
			}
		}
		if r.Left() != 0 || r.Err() != api.OK {
			t.Errorf("U%s: %d left, %d", w.name, r.Left(), r.Err())
		}
		if w.read(r) != 0 || r.Err() != api.ErrShort {
			t.Errorf("U%s: one more than were put", w.name)
		}
	}
}

// P1.4: 256 times a number stands one byte further ahead.
func TestTimes256(t *testing.T) {
	for _, w := range widths() {
		for _, x := range w.numbers() {
			if x > w.max()/256 {
				continue
			}
			b, c := w.put(nil, x), w.put(nil, 256*x)
			if !bytes.Equal(b[1:], c[:w.size-1]) || c[w.size-1] != 0 || b[0] != 0 {
				t.Errorf("Put%s of %d and 256 times that: %v, %v", w.name, x, b, c)
			}
		}
	}
}

// P1.4: a number and the next one are alike up to a byte that is one more, behind which are 255s and 0s.
func TestNextNumber(t *testing.T) {
	for _, w := range widths() {
		for _, x := range w.numbers() {
			if x == w.max() {
				continue
			}
			b, c := w.put(nil, x), w.put(nil, x+1)
			k := w.size - 1
			for b[k] == 255 && c[k] == 0 {
				k--
			}
			if b[k]+1 != c[k] || !bytes.Equal(b[:k], c[:k]) {
				t.Errorf("Put%s of %d and the next: %v, %v", w.name, x, b, c)
			}
		}
	}
}

// P1.4: whatever is looked at ahead is what comes.
func TestWhatIsSeenComes(t *testing.T) {
	for _, w := range readers() {
		r := octet.Read(count(40))
		for r.Left() >= w.size {
			seen := make([]byte, w.size)
			for k := range w.size {
				seen[k], _ = r.Peek(k)
			}
			if x := w.read(r); x != weighs(seen) {
				t.Fatalf("U%s: %d, but seen was %v", w.name, x, seen)
			}
		}
		if r.Err() != api.OK {
			t.Errorf("U%s: %d", w.name, r.Err())
		}
	}
}
