package codec_test

import (
	"bytes"
	"math/rand"
	"slices"
	"testing"

	"bowsprit/api"
	"bowsprit/codec"
)

// taking is a call that takes something, so that each promise is asked of all of them alike: whatever it takes is laid out as a list of rows (none beside nothing).
type taking struct {
	name string
	call func(b []byte) ([]api.Row, int, api.Errno)
	// laid is the bytes of such a list again; of is the bytes of each thing that there is here.
	laid func(l []api.Row) ([]byte, api.Errno)
	of   [][]byte
}

func takings() []taking {
	var ofValues, ofRows, ofLists [][]byte
	for _, v := range values() {
		ofValues = append(ofValues, valueBytes(v))
	}
	for _, r := range rows() {
		ofRows = append(ofRows, rowBytes(r))
	}
	for _, l := range lists() {
		ofLists = append(ofLists, listBytes(l))
	}
	return []taking{
		{"TakeValue", takeValue, func(l []api.Row) ([]byte, api.Errno) { return codec.Value(l[0][0]) }, ofValues},
		{"TakeRow", takeRow, func(l []api.Row) ([]byte, api.Errno) { return codec.Row(l[0]) }, ofRows},
		{"TakeList", codec.TakeList, func(l []api.Row) ([]byte, api.Errno) {
			b, _, e := codec.List(l)
			return b, e
		}, ofLists},
	}
}

// takeValue lays null out as nothing where there is an error, for then it has to be.
func takeValue(b []byte) ([]api.Row, int, api.Errno) {
	v, n, e := codec.TakeValue(b)
	if e != api.OK && v == null {
		return nil, n, e
	}
	return []api.Row{{v}}, n, e
}

func takeRow(b []byte) ([]api.Row, int, api.Errno) {
	r, n, e := codec.TakeRow(b)
	if e != api.OK && len(r) == 0 {
		return nil, n, e
	}
	return []api.Row{r}, n, e
}

// refuses asks for an error, and for nothing beside it.
func refuses(t *testing.T, c taking, b []byte, e api.Errno) {
	t.Helper()
	if l, n, f := c.call(b); len(l) != 0 || n != 0 || f != e {
		t.Fatalf("%s of %d bytes %x: %v, %d, %d, not %d", c.name, len(b), b[:min(len(b), 80)], l, n, f, e)
	}
}

// cuts are places among n bytes: all of them, or, of many, those at both ends, and some between.
func cuts(n int) []int {
	var l []int
	for k := 0; k < n; k++ {
		if k < 200 || k > n-200 || k%997 == 0 {
			l = append(l, k)
		}
	}
	return l
}

// P6.1, P6.2, P6.3, P6.5: less of its bytes is too short, at whichever place they end.
func TestTakeShort(t *testing.T) {
	for _, c := range takings() {
		refuses(t, c, nil, api.ErrShort)
		for _, b := range c.of {
			for _, k := range cuts(len(b)) {
				refuses(t, c, b[:k], api.ErrShort)
			}
		}
	}
}

// P6.5: whatever stands behind, the same is taken, and as many bytes; and its bytes are those that were taken.
func TestTakeBehind(t *testing.T) {
	behind := [][]byte{{}, {0}, {1}, {3}, {4}, {7}, {16}, {255}, octets("00 00"), octets("01 02"), octets("FF FF FF FF"), bytes.Repeat([]byte{1}, 1000), bytes.Repeat([]byte{255}, 1<<19)}
	for _, c := range takings() {
		for _, b := range c.of {
			alone, _, _ := c.call(b)
			for _, more := range behind {
				l, n, e := c.call(slices.Concat(b, more))
				if !sameList(l, alone) || n != len(b) || e != api.OK {
					t.Fatalf("%s of %d bytes with %d behind: %v, %d, %d", c.name, len(b), len(more), l, n, e)
				}
			}
			if again, e := c.laid(alone); !bytes.Equal(again, b) || e != api.OK {
				t.Errorf("%s: the bytes of what was taken: %x, %d, not %x", c.name, again, e, b)
			}
		}
	}
}

// P6.5: unlike things have unlike bytes, of which none begin with those of another one.
func TestNoneBeginsWithAnother(t *testing.T) {
	for _, c := range takings() {
		laid := [][]byte{}
		for _, b := range c.of {
			l, _, _ := c.call(b)
			again, _ := c.laid(l)
			laid = append(laid, again)
		}
		for i, a := range laid {
			for k, b := range laid {
				if i != k && bytes.HasPrefix(a, b) {
					t.Errorf("%s: %x begins with %x", c.name, a, b)
				}
			}
		}
	}
}

// P6.1: a Kind that may not be, an N of a truth, a text's length by itself, whether or not there is more behind it.
func TestTakeValueWrong(t *testing.T) {
	c := takings()[0]
	for _, more := range [][]byte{nil, {0}, {1, 1}, bytes.Repeat([]byte{97}, 300)} {
		for x := 5; x < 256; x++ {
			refuses(t, c, slices.Concat([]byte{byte(x)}, more), api.ErrCode)
		}
		for x := 2; x < 256; x++ {
			refuses(t, c, slices.Concat([]byte{api.VBool, byte(x)}, more), api.ErrCode)
		}
		for x := api.MaxText + 1; x < 256; x++ {
			refuses(t, c, slices.Concat([]byte{api.VText, byte(x)}, more), api.ErrCode)
		}
	}
	refuses(t, c, []byte{api.VText, api.MaxText}, api.ErrShort)
}

// wrongBytes are those of no value, and the error that is met in them whatever is behind; shortBytes are those of a value that ends too early.
func wrongBytes() [][]byte {
	return [][]byte{{5}, {255}, {1, 2}, {1, 255}, {3, 41}, {3, 255}}
}

func shortBytes() [][]byte {
	return [][]byte{{}, {1}, {2}, octets("02 01 02 03 04 05 06 07"), {3}, {3, 2, 97}, {3, 40}, {4}, octets("04 01 02 03 04 05 06 07 08"), octets("04 01 02 03 04 05 06 07 08 09 0A 0B 0C 0D 0E 0F")}
}

// P6.2: more than 16 values, whether they are there or not; else the first error of a value, wherever it stands.
func TestTakeRowWrong(t *testing.T) {
	c := takings()[1]
	for n := api.MaxWidth + 1; n < 256; n++ {
		refuses(t, c, []byte{byte(n)}, api.ErrCode)
		refuses(t, c, slices.Concat([]byte{byte(n)}, make([]byte, n)), api.ErrCode)
		refuses(t, c, []byte{byte(n), 5}, api.ErrCode)
	}
	for n := 1; n <= api.MaxWidth; n++ {
		for place := range n {
			ahead := slices.Concat([]byte{byte(n)}, bytes.Repeat(octets("03 01 61"), place))
			for _, b := range wrongBytes() {
				refuses(t, c, slices.Concat(ahead, b), api.ErrCode)
				refuses(t, c, slices.Concat(ahead, b, make([]byte, 900)), api.ErrCode)
			}
			for _, b := range shortBytes() {
				refuses(t, c, slices.Concat(ahead, b), api.ErrShort)
			}
		}
	}
	refuses(t, c, octets("01"), api.ErrShort)
	refuses(t, c, octets("10"), api.ErrShort)
	refuses(t, c, octets("03 01 02 05"), api.ErrCode)
}

// P6.3: more than 400 rows, whether they are there or not; else the first error of a row, wherever it stands.
func TestTakeListWrong(t *testing.T) {
	c := takings()[2]
	for _, b := range [][]byte{nil, {0}, {1}, {255}} {
		refuses(t, c, b, api.ErrShort)
	}
	for _, n := range []int{401, 402, 511, 512, 0x9001, 1 << 15, 1<<16 - 1} {
		refuses(t, c, highest(uint64(n), 2), api.ErrCode)
		refuses(t, c, slices.Concat(highest(uint64(n), 2), make([]byte, n)), api.ErrCode)
	}
	for _, n := range []int{1, 2, 256, api.MaxCoded} {
		refuses(t, c, highest(uint64(n), 2), api.ErrShort)
		for _, place := range []int{0, n / 2, n - 1} {
			ahead := slices.Concat(highest(uint64(n), 2), bytes.Repeat(octets("02 00 01 01"), place))
			for _, b := range [][]byte{{17}, {255}, {17, 0}} {
				refuses(t, c, slices.Concat(ahead, b), api.ErrCode)
				refuses(t, c, slices.Concat(ahead, b, make([]byte, 2000)), api.ErrCode)
			}
			for _, b := range wrongBytes() {
				refuses(t, c, slices.Concat(ahead, []byte{1}, b), api.ErrCode)
				refuses(t, c, slices.Concat(ahead, []byte{2, 0}, b, make([]byte, 2000)), api.ErrCode)
			}
			for _, b := range shortBytes() {
				refuses(t, c, slices.Concat(ahead, []byte{1}, b), api.ErrShort)
				refuses(t, c, slices.Concat(ahead, []byte{16, 0}, b), api.ErrShort)
			}
			refuses(t, c, ahead, api.ErrShort)
		}
	}
}

// expected takes by the chapter's words, apart from the program: how many bytes, and which error. What it is asked for is a value (0), a row (1) or a list (2).
func expected(what int, b []byte) (int, api.Errno) {
	width, most := 1, []int{api.VSum, api.MaxWidth, api.MaxCoded}[what]
	if what == 2 {
		width = 2
	}
	if len(b) < width {
		return 0, api.ErrShort
	}
	count := int(b[width-1])
	if what == 2 {
		count += 256 * int(b[0])
	}
	if count > most {
		return 0, api.ErrCode
	}
	if what == 0 {
		return expectedValue(b)
	}
	at := width
	for range count {
		n, e := expected(what-1, b[at:])
		if e != api.OK {
			return 0, e
		}
		at += n
	}
	return at, api.OK
}

// expectedValue is that of bytes that begin with a Kind that may be.
func expectedValue(b []byte) (int, api.Errno) {
	size := []int{1, 2, 9, 2, 17}[b[0]]
	if len(b) < size {
		return 0, api.ErrShort
	}
	if b[0] == api.VBool && b[1] > 1 || b[0] == api.VText && b[1] > api.MaxText {
		return 0, api.ErrCode
	}
	if b[0] == api.VText {
		size += int(b[1])
	}
	if len(b) < size {
		return 0, api.ErrShort
	}
	return size, api.OK
}

// agrees holds a call against what is expected of it: how many bytes it takes, that they are those of what it took, or its error.
func agrees(t *testing.T, what int, c taking, b []byte) {
	t.Helper()
	n, e := expected(what, b)
	if e != api.OK {
		refuses(t, c, b, e)
		return
	}
	l, m, f := c.call(b)
	if m != n || f != api.OK {
		t.Fatalf("%s(%x): %v, %d, %d, not %d", c.name, b, l, m, f, n)
	}
	if again, f := c.laid(l); !bytes.Equal(again, b[:n]) || f != api.OK {
		t.Fatalf("%s(%x): %v, of which the bytes are %x, %d", c.name, b, l, again, f)
	}
}

// P6.1 to P6.3, P6.5: all bytes of at most two, and many longer ones of such as stand in values, are taken or refused as they have to be.
func TestTakeWhatever(t *testing.T) {
	chance := rand.New(rand.NewSource(6))
	near := []byte{0, 0, 0, 0, 1, 1, 1, 2, 2, 3, 3, 4, 5, 16, 17, 40, 41, 97, 255}
	for what, c := range takings() {
		for x := range 1 << 16 {
			agrees(t, what, c, []byte{byte(x >> 8), byte(x)})
			agrees(t, what, c, []byte{byte(x >> 8), byte(x)}[:x%2])
		}
		for range 100000 {
			b := make([]byte, chance.Intn(60))
			for k := range b {
				b[k] = near[chance.Intn(len(near))]
			}
			agrees(t, what, c, b)
		}
	}
}

// R3: what is handed in is neither changed nor kept, the room behind its end neither read nor written.
func TestTakeKeepsNothing(t *testing.T) {
	for _, c := range takings() {
		for _, b := range c.of {
			if len(b) < 2 {
				continue
			}
			want, _, _ := c.call(b)
			whole := slices.Concat(b, b)
			got, _, e := c.call(whole[:len(b)])
			if !bytes.Equal(whole, slices.Concat(b, b)) || e != api.OK {
				t.Fatalf("%s wrote into what it was handed", c.name)
			}
			for k := range whole {
				whole[k] ^= 255
			}
			if !sameList(got, want) {
				t.Fatalf("%s kept what it was handed", c.name)
			}
			copy(whole, b)
			refuses(t, c, whole[:len(b)-1], api.ErrShort)
		}
	}
}

// R3: each row that is taken is of its own: what is done to one, or put behind it, reaches no other one.
func TestTakenRowsAreApart(t *testing.T) {
	want := []api.Row{{null, yes}, {text("a"), number(5)}, {null, yes}}
	l, _, e := codec.TakeList(listBytes(want))
	if e != api.OK {
		t.Fatal(e)
	}
	_ = append(l[0], no, no, no)
	l[0][0], l[0][1] = number(7), number(8)
	if !sameList(l[1:], want[1:]) {
		t.Errorf("rows share: %v", l)
	}
}

// R3: rows and lists that are laid are left as they are, and their bytes are new each time.
func TestLaidIsNew(t *testing.T) {
	want := rows()
	l := rows()
	first, _, _ := codec.List(l)
	second, _, _ := codec.List(l)
	clear(first)
	if !sameList(l, want) || !bytes.Equal(second, listBytes(want)) {
		t.Error("List changed what it was handed, or two answers share")
	}
	r := api.Row{text("a"), number(5)}
	one, _ := codec.Row(r)
	two, _ := codec.Row(r)
	clear(one)
	if !slices.Equal(r, api.Row{text("a"), number(5)}) || !bytes.Equal(two, rowBytes(r)) {
		t.Error("Row changed what it was handed, or two answers share")
	}
}
