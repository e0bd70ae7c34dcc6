package sum_test

import (
	"bytes"
	"hash/crc32"
	"math"
	"testing"

	"bowsprit/api"
	"bowsprit/sum"
)

// count is n bytes, each another one than those ahead of it (up to 256 of them), the first ones not 0.
func count(n int) []byte {
	b := make([]byte, n)
	for k := range b {
		b[k] = byte(3*k + 1)
	}
	return b
}

// full is n bytes that are all c.
func full(n int, c byte) []byte {
	return bytes.Repeat([]byte{c}, n)
}

// rows are bytes of many kinds and lengths: none, one, and around what a register, a table, a frame has.
func rows() [][]byte {
	l := [][]byte{nil, {}}
	for c := range 256 {
		l = append(l, []byte{byte(c)})
	}
	for _, n := range []int{1, 2, 3, 4, 5, 7, 8, 9, 31, 32, 33, 255, 256, 257, 1000, 20000} {
		l = append(l, count(n), full(n, 0), full(n, 255), full(n, 0x80), full(n, 1))
	}
	return l
}

// reckoned is the chapter's own reckoning, bit by bit, apart from how the program does it.
func reckoned(b []byte) uint32 {
	register := uint32(math.MaxUint32)
	for _, c := range b {
		for k := range 8 {
			other := register%2 != uint32(c>>k)%2
			register /= 2
			if other {
				register ^= 0x82F63B78
			}
		}
	}
	return math.MaxUint32 - register
}

// sealed is bytes, and their sum behind them, the lowest byte first.
func sealed(b []byte) []byte {
	s := reckoned(b)
	out := append([]byte{}, b...)
	return append(out, byte(s), byte(s>>8), byte(s>>16), byte(s>>24))
}

// turned is b, turned by d from the place at on.
func turned(b []byte, at int, d ...byte) []byte {
	out := append([]byte{}, b...)
	for k, c := range d {
		out[at+k] ^= c
	}
	return out
}

// P3.1: sums that are written out here; those of 32 and 48 bytes are the ones that RFC 3720 tells.
func TestSumsThatAreKnown(t *testing.T) {
	rising, falling := make([]byte, 32), make([]byte, 32)
	for k := range 32 {
		rising[k], falling[k] = byte(k), byte(31-k)
	}
	order := []byte{0x01, 0xc0, 0, 0, 0, 0, 0, 0, 0, 0, 0, 0, 0, 0, 0, 0, 0x14, 0, 0, 0, 0, 0, 0x04, 0, 0, 0, 0, 0x14, 0, 0, 0, 0x18, 0x28, 0, 0, 0, 0, 0, 0, 0, 0x02, 0, 0, 0, 0, 0, 0, 0}
	cases := []struct {
		b    []byte
		want uint32
	}{
		{nil, 0}, {[]byte{}, 0}, {[]byte("123456789"), 0xE3069283}, {[]byte("a"), 0xC1D04330}, {[]byte("abc"), 0x364B3FB7},
		{full(32, 0), 0x8A9136AA}, {full(32, 255), 0x62A8AB43}, {rising, 0x46DD794E}, {falling, 0x113FDB5C}, {order, 0xD9963A56},
	}
	for _, c := range cases {
		if s := sum.Sum32(c.b); s != c.want {
			t.Errorf("Sum32(% x): %08X, not %08X", c.b, s, c.want)
		}
	}
}

// P3.1: as the chapter reckons, and as Go's own library does.
func TestSumIsReckoned(t *testing.T) {
	table := crc32.MakeTable(crc32.Castagnoli)
	for _, b := range rows() {
		if s := sum.Sum32(b); s != reckoned(b) || s != crc32.Checksum(b, table) {
			t.Errorf("Sum32 of %d bytes: %08X, not %08X", len(b), s, reckoned(b))
		}
	}
	for c := range 1 << 16 {
		b := []byte{byte(c >> 8), byte(c)}
		if s := sum.Sum32(b); s != reckoned(b) {
			t.Fatalf("Sum32(% x): %08X, not %08X", b, s, reckoned(b))
		}
	}
}

// P3.1, R3, R5: the same bytes have the same sum, wherever they lie, and they are not changed.
func TestSumHangsOnTheBytesAlone(t *testing.T) {
	whole := count(60)
	for from := range 20 {
		for to := from; to < 40; to++ {
			b := whole[from:to]
			if sum.Sum32(b) != sum.Sum32(append([]byte{}, b...)) || sum.Sum32(b) != reckoned(b) {
				t.Fatalf("Sum32 of the bytes from %d to %d", from, to)
			}
		}
	}
	if !bytes.Equal(whole, count(60)) {
		t.Errorf("the bytes were changed: %v", whole)
	}
}

// P3.2: the bytes that are written out here, and those of the chapter's reckoning.
func TestSeal(t *testing.T) {
	cases := []struct {
		got, want []byte
	}{
		{sum.Seal32(nil), []byte{0, 0, 0, 0}},
		{sum.Seal32([]byte{}), []byte{0, 0, 0, 0}},
		{sum.Seal32([]byte("123456789")), []byte("123456789\x83\x92\x06\xe3")},
		{sum.Seal32([]byte("a")), []byte("a\x30\x43\xd0\xc1")},
		{sum.Seal32([]byte("abc")), []byte("abc\xb7\x3f\x4b\x36")},
	}
	for i, c := range cases {
		if !bytes.Equal(c.got, c.want) {
			t.Errorf("case %d: % x, not % x", i, c.got, c.want)
		}
	}
	for _, b := range rows() {
		if got := sum.Seal32(b); !bytes.Equal(got, sealed(b)) {
			t.Errorf("Seal32 of %d bytes ends with % x", len(b), got[max(0, len(got)-4):])
		}
	}
}

// P3.2: what was sealed is opened, also what another one sealed, once and twice.
func TestOpen(t *testing.T) {
	for _, b := range rows() {
		for _, s := range [][]byte{sum.Seal32(b), sealed(b)} {
			if got, e := sum.Open32(s); !bytes.Equal(got, b) || e != api.OK {
				t.Errorf("Open32 of %d sealed bytes: %d bytes, %d", len(b), len(got), e)
			}
		}
		inner, e := sum.Open32(sum.Seal32(sum.Seal32(b)))
		if got, f := sum.Open32(inner); !bytes.Equal(got, b) || e != api.OK || f != api.OK {
			t.Errorf("Open32 of %d bytes sealed twice: %d bytes, %d, %d", len(b), len(got), e, f)
		}
	}
}

// P3.2: fewer than four bytes: ErrShort, whatever they are; four bytes alone are none, sealed, or ErrSum.
func TestOpenFewBytes(t *testing.T) {
	for n := range 4 {
		for _, b := range [][]byte{count(n), full(n, 0), full(n, 255), count(9)[:n]} {
			if got, e := sum.Open32(b); len(got) != 0 || e != api.ErrShort {
				t.Errorf("Open32(% x): % x, %d", b, got, e)
			}
		}
	}
	if got, e := sum.Open32(nil); len(got) != 0 || e != api.ErrShort {
		t.Errorf("Open32(nil): % x, %d", got, e)
	}
	if got, e := sum.Open32(full(4, 0)); len(got) != 0 || e != api.OK {
		t.Errorf("Open32(00 00 00 00): % x, %d", got, e)
	}
	for k := range 32 {
		b := full(4, 0)
		b[k/8] = 1 << (k % 8)
		if got, e := sum.Open32(b); len(got) != 0 || e != api.ErrSum {
			t.Errorf("Open32(% x): % x, %d", b, got, e)
		}
	}
	if got, e := sum.Open32(full(4, 255)); len(got) != 0 || e != api.ErrSum {
		t.Errorf("Open32(FF FF FF FF): % x, %d", got, e)
	}
}

// P3.2: a sum that is not the bytes': of other bytes, the other way round, not turned at the end, with a byte ahead or behind, one byte short.
func TestOpenWrongSum(t *testing.T) {
	b := count(9)
	good := sealed(b)
	s := good[9:]
	with := func(last ...byte) []byte { return append(append([]byte{}, b...), last...) }
	cases := [][]byte{
		with(s[3], s[2], s[1], s[0]), with(^s[0], ^s[1], ^s[2], ^s[3]), with(0, 0, 0, 0), with(sealed(b[1:])[8:]...),
		good[1:], good[:12], append([]byte{0}, good...), append(append([]byte{}, good...), 0), b,
		append(append([]byte{}, s...), b...), append(append([]byte{}, good...), s...),
	}
	for _, c := range cases {
		if got, e := sum.Open32(c); len(got) != 0 || e != api.ErrSum {
			t.Errorf("Open32(% x): % x, %d", c, got, e)
		}
	}
}

// P3.2, R3: neither what is handed in nor the room behind it is written, and the answers of both calls are new lists.
func TestSealedSharesNothing(t *testing.T) {
	for _, n := range []int{0, 1, 4, 9} {
		for _, room := range []int{0, 1, 3, 4, 5, 40} {
			whole := count(n + room)
			first, second := sum.Seal32(whole[:n]), sum.Seal32(whole[:n])
			if !bytes.Equal(whole, count(n+room)) {
				t.Fatalf("Seal32 wrote into what it was handed: %v", whole)
			}
			clear(whole)
			clear(second)
			if !bytes.Equal(first, sealed(count(n))) || !bytes.Equal(whole, make([]byte, n+room)) {
				t.Fatalf("Seal32 of %d bytes shares: % x", n, first)
			}
			whole = append(sealed(count(n)), count(room)...)
			want := append([]byte{}, whole...)
			opened, e := sum.Open32(whole[:n+4])
			if !bytes.Equal(opened, count(n)) || e != api.OK {
				t.Fatalf("Open32 of %d bytes: % x, %d", n, opened, e)
			}
			clear(opened)
			opened = append(opened, 77, 78, 79)
			if !bytes.Equal(whole, want) {
				t.Fatalf("Open32 of %d bytes shares with what it was handed: % x", n, whole)
			}
			opened, _ = sum.Open32(whole[:n+4])
			clear(whole)
			if !bytes.Equal(opened, count(n)) {
				t.Fatalf("Open32 of %d bytes kept what it was handed: % x", n, opened)
			}
		}
	}
}

// P3.3: what is left behind division, for many n, beyond all sums among them.
func TestSpread(t *testing.T) {
	for _, b := range rows() {
		for _, n := range []int{1, 2, 3, 4, 5, 6, 7, 8, 10, 255, 256, 257, 1 << 16, math.MaxInt32 - 1, math.MaxInt32} {
			want := int(int64(reckoned(b)) % int64(n))
			if got, e := sum.Spread(b, n); got != want || e != api.OK {
				t.Errorf("Spread of %d bytes, %d: %d, %d, not %d", len(b), n, got, e, want)
			}
		}
		if math.MaxInt > math.MaxInt32 {
			spreadFar(t, b)
		}
	}
}

// spreadFar asks with n that are as great as a sum can be, and greater: nothing of them may be cut off.
func spreadFar(t *testing.T, b []byte) {
	t.Helper()
	s := uint64(reckoned(b))
	for _, n := range []uint64{1 << 31, math.MaxUint32 - 1, math.MaxUint32, 1 << 32, 1<<32 + 1, 1<<32 + 7, 1 << 62, math.MaxInt64} {
		if got, e := sum.Spread(b, int(n)); uint64(got) != s%n || e != api.OK {
			t.Errorf("Spread of %d bytes, %d: %d, %d, not %d", len(b), n, got, e, s%n)
		}
	}
}

// P3.3: n of 1 and below, whatever the bytes are.
func TestSpreadEdges(t *testing.T) {
	for _, b := range [][]byte{nil, {}, {0}, count(9), []byte("123456789"), full(32, 255)} {
		if got, e := sum.Spread(b, 1); got != 0 || e != api.OK {
			t.Errorf("Spread(% x, 1): %d, %d", b, got, e)
		}
		for _, n := range []int{0, -1, -2, -7, math.MinInt32, math.MinInt} {
			if got, e := sum.Spread(b, n); got != 0 || e != api.ErrArg {
				t.Errorf("Spread(% x, %d): %d, %d", b, n, got, e)
			}
		}
	}
	if got, e := sum.Spread(nil, 7); got != 0 || e != api.OK {
		t.Errorf("Spread(none, 7): %d, %d", got, e)
	}
	if got, e := sum.Spread([]byte("123456789"), 1000); got != 0xE3069283%1000 || e != api.OK {
		t.Errorf("Spread(31 .. 39, 1000): %d, %d", got, e)
	}
}

// P3.3: the bits in which the sums differ; none of a row and itself; the same the other way round.
func TestApart(t *testing.T) {
	l := rows()
	for i, a := range l {
		for _, b := range [][]byte{a, l[(i+1)%len(l)], l[(i+2)%len(l)], full(len(a), 0), full(len(a), 90)} {
			if len(a) != len(b) {
				continue
			}
			want := reckoned(a) ^ reckoned(b)
			got, e := sum.Apart(a, b)
			back, f := sum.Apart(b, a)
			if got != want || back != want || e != api.OK || f != api.OK {
				t.Errorf("Apart of %d bytes: %08X, %d; %08X, %d; not %08X", len(a), got, e, back, f, want)
			}
		}
	}
	if got, e := sum.Apart([]byte("a"), []byte("b")); got != reckoned([]byte("a"))^reckoned([]byte("b")) || got == 0 || e != api.OK {
		t.Errorf("Apart(a, b): %08X, %d", got, e)
	}
	if got, e := sum.Apart(nil, []byte{}); got != 0 || e != api.OK {
		t.Errorf("Apart(none, none): %08X, %d", got, e)
	}
}

// P3.3: rows of unlike lengths, though the one begins the other, or has the same sum (as all that is sealed has).
func TestApartUnlikeLengths(t *testing.T) {
	cases := [][2][]byte{
		{{1}, {1, 2}}, {nil, {0}}, {{}, {255}}, {{0}, {0, 0}}, {count(9), count(8)}, {count(100), count(1000)},
		{nil, full(4, 255)}, {count(5), sealed(count(5))}, {sealed(count(5)), sealed(count(6))},
	}
	for _, c := range cases {
		got, e := sum.Apart(c[0], c[1])
		back, f := sum.Apart(c[1], c[0])
		if got != 0 || back != 0 || e != api.ErrArg || f != api.ErrArg {
			t.Errorf("Apart(% x, % x): %08X, %d; %08X, %d", c[0], c[1], got, e, back, f)
		}
	}
}

// P3.3, R3: neither Spread nor Apart changes what is handed in, nor the room behind it.
func TestAskingChangesNothing(t *testing.T) {
	a, b := count(20), full(20, 7)
	sum.Spread(a[:9], 5)
	sum.Apart(a[:9], b[:9])
	sum.Apart(a[:9], b[:8])
	if !bytes.Equal(a, count(20)) || !bytes.Equal(b, full(20, 7)) {
		t.Errorf("changed: %v, %v", a, b)
	}
}

// P3.4: how far the sums of two rows are apart hangs on where these differ, not on what else they have.
func TestApartHangsOnWhereRowsDiffer(t *testing.T) {
	for _, n := range []int{1, 2, 4, 5, 9, 40, 300} {
		for _, d := range [][]byte{full(n, 0), full(n, 1), full(n, 255), count(n), turned(full(n, 0), n/2, 64), turned(full(n, 0), 0, 128), turned(full(n, 0), n-1, 1)} {
			want, _ := sum.Apart(full(n, 0), d)
			for _, b := range [][]byte{full(n, 255), full(n, 0x5A), count(n), turned(count(n), 0, 200)} {
				if got, e := sum.Apart(b, turned(b, 0, d...)); got != want || e != api.OK {
					t.Errorf("rows of %d bytes that differ in % x: %08X, not %08X", n, d, got, want)
				}
			}
		}
	}
}

// P3.4: rows that differ within four bytes side by side have sums that differ: in one, two, three bits, in each byte alone, and by many other turns.
func TestSumsDifferWithinFourBytes(t *testing.T) {
	for _, n := range []int{4, 5, 11, 64} {
		b := count(n)
		for at := range n - 3 {
			for _, x := range turns() {
				other := turned(b, at, byte(x), byte(x>>8), byte(x>>16), byte(x>>24))
				if got, e := sum.Apart(b, other); got == 0 || e != api.OK || sum.Sum32(b) == sum.Sum32(other) {
					t.Fatalf("%d bytes, turned by %08X at %d: %08X, %d", n, x, at, got, e)
				}
			}
		}
	}
	for n := 1; n < 4; n++ {
		for x := 1; x < 1<<(8*n); x = 2*x + x%7 + 1 {
			d := []byte{byte(x), byte(x >> 8), byte(x >> 16)}
			if got, e := sum.Apart(count(n), turned(count(n), 0, d[:n]...)); got == 0 || e != api.OK {
				t.Fatalf("%d bytes, turned by %06X: %08X, %d", n, x, got, e)
			}
		}
	}
}

// turns are how four bytes may be turned, none of them by nothing.
func turns() []uint32 {
	l := []uint32{math.MaxUint32, 0x82F63B78, 0x05EC76F1, 0x1EDC6F41, 0x8F6E37A0}
	for i := range 32 {
		for j := range i + 1 {
			l = append(l, 1<<i|1<<j, 1<<i|1<<j|1<<(j/2))
		}
	}
	for k := range 4 {
		for c := 1; c < 256; c++ {
			l = append(l, uint32(c)<<(8*k))
		}
	}
	for x, k := uint32(1), 0; k < 500; k++ {
		x = 1664525*x + 1013904223
		l = append(l, x|1)
	}
	return l
}

// P3.4: what was sealed, and has one byte that is another one, is not opened: each place, the sum's among them, and each other byte.
func TestOneOtherByteIsNotOpened(t *testing.T) {
	for _, n := range []int{0, 1, 2, 9, 70} {
		good := sum.Seal32(count(n))
		for at := range good {
			for c := 1; c < 256; c++ {
				if got, e := sum.Open32(turned(good, at, byte(c))); len(got) != 0 || e != api.ErrSum {
					t.Fatalf("%d bytes, sealed, the byte %d turned by %d: % x, %d", n, at, c, got, e)
				}
			}
		}
		if got, e := sum.Open32(good); !bytes.Equal(got, count(n)) || e != api.OK {
			t.Errorf("%d bytes, sealed: % x, %d", n, got, e)
		}
	}
}

// P3.4: who is spread over n places, and over m times as many, stands in the place of the one that the other one says.
func TestSpreadOverMore(t *testing.T) {
	for _, b := range rows() {
		for n := 1; n < 10; n++ {
			for _, m := range []int{1, 2, 3, 8, 1000} {
				few, e := sum.Spread(b, n)
				many, f := sum.Spread(b, n*m)
				if many%n != few || many < 0 || many >= n*m || e != api.OK || f != api.OK {
					t.Errorf("%d bytes over %d, and %d times as many: %d, %d", len(b), n, m, few, many)
				}
			}
		}
	}
}

// R1: bytes as many as are likely at once.
func TestManyBytes(t *testing.T) {
	b := full(1<<22, 0xA5)
	if s := sum.Sum32(b); s != crc32.Checksum(b, crc32.MakeTable(crc32.Castagnoli)) {
		t.Errorf("Sum32 of %d bytes: %08X", len(b), s)
	}
	if got, e := sum.Open32(sum.Seal32(b)); !bytes.Equal(got, b) || e != api.OK {
		t.Errorf("Open32 of %d bytes: %d, %d", len(b), len(got), e)
	}
}
