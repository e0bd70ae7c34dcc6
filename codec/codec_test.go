package codec_test

import (
	"bytes"
	"encoding/hex"
	"math"
	"slices"
	"strings"
	"testing"

	"bowsprit/api"
	"bowsprit/codec"
)

// number, total and text are values, laid here without the program.
func number(n int64) api.Value {
	return api.Value{Kind: api.VInt, N: n}
}

func total(n int64, u uint64) api.Value {
	return api.Value{Kind: api.VSum, N: n, U: u}
}

func text(s string) api.Value {
	return api.Value{Kind: api.VText, S: s}
}

var (
	null = api.Value{}
	no   = api.Value{Kind: api.VBool}
	yes  = api.Value{Kind: api.VBool, N: 1}

	longest = text(strings.Repeat("z", api.MaxText))
)

// octets reads bytes to the base 16, with or without blanks between them.
func octets(s string) []byte {
	b, err := hex.DecodeString(strings.ReplaceAll(s, " ", ""))
	if err != nil {
		panic(err)
	}
	return b
}

// written is a value, and its bytes as they are written out here, one by one.
type written struct {
	v    api.Value
	want []byte
}

func writtenValues() []written {
	return []written{
		{null, octets("00")}, {no, octets("01 00")}, {yes, octets("01 01")},
		{number(0), octets("02 00 00 00 00 00 00 00 00")}, {number(1), octets("02 00 00 00 00 00 00 00 01")}, {number(-1), octets("02 FF FF FF FF FF FF FF FF")}, {number(256), octets("02 00 00 00 00 00 00 01 00")}, {number(-256), octets("02 FF FF FF FF FF FF FF 00")},
		{number(0x0102030405060708), octets("02 01 02 03 04 05 06 07 08")}, {number(math.MaxInt64), octets("02 7F FF FF FF FF FF FF FF")}, {number(math.MinInt64), octets("02 80 00 00 00 00 00 00 00")},
		{text(""), octets("03 00")}, {text("a"), octets("03 01 61")}, {text("ab"), octets("03 02 61 62")}, {text("\x00"), octets("03 01 00")}, {text("\x00\xff"), octets("03 02 00 FF")}, {text("é"), octets("03 02 C3 A9")}, {text("it's"), octets("03 04 69 74 27 73")},
		{longest, octets("03 28" + strings.Repeat("7A", api.MaxText))}, {text(strings.Repeat("\xff", api.MaxText)), octets("03 28" + strings.Repeat("FF", api.MaxText))}, {text(strings.Repeat("\x00", api.MaxText-1)), octets("03 27" + strings.Repeat("00", api.MaxText-1))},
		{total(0, 0), octets("04 00 00 00 00 00 00 00 00 00 00 00 00 00 00 00 00")}, {total(-1, 1), octets("04 FF FF FF FF FF FF FF FF 00 00 00 00 00 00 00 01")}, {total(1, math.MaxUint64), octets("04 00 00 00 00 00 00 00 01 FF FF FF FF FF FF FF FF")},
		{total(0x0102030405060708, 0x090A0B0C0D0E0F10), octets("04 01 02 03 04 05 06 07 08 09 0A 0B 0C 0D 0E 0F 10")}, {total(math.MinInt64, 1<<63), octets("04 80 00 00 00 00 00 00 00 80 00 00 00 00 00 00 00")},
	}
}

// values are those that may be, of each kind.
func values() []api.Value {
	var l []api.Value
	for _, w := range writtenValues() {
		l = append(l, w.v)
	}
	return l
}

// wrong are values that may not be: of no kind, and of each kind with something in what does not count of it.
func wrong() []api.Value {
	return []api.Value{
		{Kind: -1}, {Kind: 5}, {Kind: 256}, {Kind: 256 + api.VInt}, {Kind: math.MaxInt}, {Kind: math.MinInt}, {N: 1}, {U: 1}, {S: "a"},
		{Kind: api.VBool, N: 2}, {Kind: api.VBool, N: -1}, {Kind: api.VBool, N: 256}, {Kind: api.VBool, U: 1}, {Kind: api.VBool, N: 1, S: "a"}, {Kind: api.VInt, U: 1}, {Kind: api.VInt, S: "5"},
		{Kind: api.VText, N: 1}, {Kind: api.VText, U: 1, S: "a"}, text(strings.Repeat("a", api.MaxText+1)), text(strings.Repeat("a", 256)), text(strings.Repeat("a", 256+2)), {Kind: api.VSum, S: "a"},
	}
}

// wide is a row of one value, so many times.
func wide(n int, v api.Value) api.Row {
	return slices.Repeat(api.Row{v}, n)
}

// rows may be: of no values, of each value, of 16 values; no two of them are the same.
func rows() []api.Row {
	l := []api.Row{{}}
	for _, v := range values() {
		l = append(l, api.Row{v}, api.Row{v, null}, api.Row{number(7), v}, append(wide(api.MaxWidth-1, yes), v), append(api.Row{v}, wide(api.MaxWidth-1, longest)...))
	}
	for n := 3; n < api.MaxWidth; n++ {
		l = append(l, wide(n, null), append(wide(n-1, text("a")), total(5, 6)))
	}
	return append(l, values()[:api.MaxWidth])
}

// lists may be: of no rows, of each row, of 400 rows; no two of them are the same.
func lists() [][]api.Row {
	l := [][]api.Row{{}, {{}, {}}, rows()}
	for _, r := range rows() {
		l = append(l, []api.Row{r}, []api.Row{{number(8)}, r})
	}
	for _, n := range []int{255, 256, 257, api.MaxCoded - 1, api.MaxCoded} {
		l = append(l, slices.Repeat([]api.Row{{}}, n), slices.Repeat([]api.Row{{yes, longest}}, n))
	}
	return append(l, slices.Repeat([]api.Row{wide(api.MaxWidth, longest)}, api.MaxCoded))
}

// highest is a number's bytes by the chapter's words, apart from the program.
func highest(x uint64, width int) []byte {
	b := make([]byte, width)
	for k := width - 1; k >= 0; k-- {
		b[k] = byte(x % 256)
		x /= 256
	}
	return b
}

// valueBytes, rowBytes and listBytes are the bytes by the chapter's words, apart from the program.
func valueBytes(v api.Value) []byte {
	b := highest(uint64(v.Kind), 1)
	switch v.Kind {
	case api.VBool:
		b = append(b, highest(uint64(v.N), 1)...)
	case api.VInt:
		b = append(b, highest(uint64(v.N), 8)...)
	case api.VText:
		b = append(append(b, highest(uint64(len(v.S)), 1)...), v.S...)
	case api.VSum:
		b = append(append(b, highest(uint64(v.N), 8)...), highest(v.U, 8)...)
	}
	return b
}

func rowBytes(r api.Row) []byte {
	b := highest(uint64(len(r)), 1)
	for _, v := range r {
		b = append(b, valueBytes(v)...)
	}
	return b
}

func listBytes(l []api.Row) []byte {
	b := highest(uint64(len(l)), 2)
	for _, r := range l {
		b = append(b, rowBytes(r)...)
	}
	return b
}

// sameList holds lists against one another apart from the program.
func sameList(a, b []api.Row) bool {
	return slices.EqualFunc(a, b, slices.Equal[api.Row])
}

// P6.1: bytes that are written out here, there and back.
func TestValue(t *testing.T) {
	for _, c := range writtenValues() {
		if b, e := codec.Value(c.v); !bytes.Equal(b, c.want) || e != api.OK {
			t.Errorf("Value(%v): %x, %d, not %x", c.v, b, e, c.want)
		}
		if v, n, e := codec.TakeValue(c.want); v != c.v || n != len(c.want) || e != api.OK {
			t.Errorf("TakeValue(%x): %v, %d, %d, not %v", c.want, v, n, e, c.v)
		}
	}
	for n := range api.MaxText + 1 {
		v := text(strings.Repeat("'", n))
		if b, e := codec.Value(v); !bytes.Equal(b, valueBytes(v)) || len(b) != 2+n || e != api.OK {
			t.Errorf("a text of %d bytes: %x, %d", n, b, e)
		}
	}
}

// P6.1: what may not be has no bytes.
func TestValueWrong(t *testing.T) {
	for _, v := range wrong() {
		if b, e := codec.Value(v); len(b) != 0 || e != api.ErrValue {
			t.Errorf("Value(%v): %x, %d", v, b, e)
		}
	}
}

// P6.2: how many values, and these; a row of no values, and rows of 16 among them.
func TestRow(t *testing.T) {
	cases := []struct {
		r    api.Row
		want []byte
	}{
		{nil, octets("00")}, {api.Row{}, octets("00")}, {api.Row{null, yes}, octets("02 00 01 01")}, {api.Row{null}, octets("01 00")}, {api.Row{no, text("ab"), no}, octets("03 01 00 03 02 61 62 01 00")},
		{api.Row{number(2), number(-2)}, octets("02 02 00 00 00 00 00 00 00 02 02 FF FF FF FF FF FF FF FE")}, {wide(api.MaxWidth, null), octets("10" + strings.Repeat("00", api.MaxWidth))}, {wide(api.MaxWidth, yes), octets("10" + strings.Repeat("0101", api.MaxWidth))},
	}
	for _, r := range rows() {
		cases = append(cases, struct {
			r    api.Row
			want []byte
		}{r, rowBytes(r)})
	}
	for _, c := range cases {
		if b, e := codec.Row(c.r); !bytes.Equal(b, c.want) || e != api.OK {
			t.Errorf("Row(%v): %x, %d, not %x", c.r, b, e, c.want)
		}
		if r, n, e := codec.TakeRow(c.want); !slices.Equal(r, c.r) || n != len(c.want) || e != api.OK {
			t.Errorf("TakeRow(%x): %v, %d, %d, not %v", c.want, r, n, e, c.r)
		}
	}
}

// P6.2: one value more than 16 is too long, and that goes ahead of a value that may not be.
func TestRowWrong(t *testing.T) {
	for _, n := range []int{api.MaxWidth + 1, api.MaxWidth + 2, 255, 256, 256 + 2, 1000} {
		for _, v := range append(wrong(), null, yes, number(5), longest) {
			if b, e := codec.Row(wide(n, v)); len(b) != 0 || e != api.ErrLong {
				t.Errorf("Row of %d values %v: %x, %d", n, v, b, e)
			}
		}
	}
	for _, v := range wrong() {
		for n := 1; n <= api.MaxWidth; n++ {
			for place := range n {
				r := wide(n, text("a"))
				r[place] = v
				if b, e := codec.Row(r); len(b) != 0 || e != api.ErrValue {
					t.Errorf("Row of %d values, at the place %d %v: %x, %d", n, place, v, b, e)
				}
			}
		}
	}
}

// P6.3: how many rows, and these; no rows, and 400 among them.
func TestList(t *testing.T) {
	cases := []struct {
		l    []api.Row
		want []byte
	}{
		{nil, octets("00 00")}, {[]api.Row{}, octets("00 00")}, {[]api.Row{nil}, octets("00 01 00")}, {[]api.Row{{}}, octets("00 01 00")}, {[]api.Row{{}, {null, yes}, {}}, octets("00 03 00 02 00 01 01 00")},
		{[]api.Row{{text("ab")}, {no}}, octets("00 02 01 03 02 61 62 01 01 00")}, {slices.Repeat([]api.Row{{}}, 256), octets("01 00" + strings.Repeat("00", 256))}, {slices.Repeat([]api.Row{{yes}}, api.MaxCoded), octets("01 90" + strings.Repeat("010101", api.MaxCoded))},
	}
	for _, l := range lists() {
		cases = append(cases, struct {
			l    []api.Row
			want []byte
		}{l, listBytes(l)})
	}
	for _, c := range cases {
		if b, place, e := codec.List(c.l); !bytes.Equal(b, c.want) || place != 0 || e != api.OK {
			t.Errorf("List(%v): %x, %d, %d, not %x", c.l, b, place, e, c.want)
		}
		if l, n, e := codec.TakeList(c.want); !sameList(l, c.l) || n != len(c.want) || e != api.OK {
			t.Errorf("TakeList(%x): %v, %d, %d, not %v", c.want, l, n, e, c.l)
		}
	}
}

// refusesList asks List and Size alike for an error, and for nothing beside it but a place.
func refusesList(t *testing.T, l []api.Row, place int, e api.Errno) {
	t.Helper()
	if b, p, f := codec.List(l); len(b) != 0 || p != place || f != e {
		t.Errorf("List of %d rows: %x, %d, %d, not %d, %d", len(l), b, p, f, place, e)
	}
	if n, f := codec.Size(l); n != 0 || f != e {
		t.Errorf("Size of %d rows: %d, %d, not %d", len(l), n, f, e)
	}
}

// P6.3, P6.4: one row more than 400 is too long, and that goes ahead of rows with errors: beside it stands the place 0.
func TestListTooLong(t *testing.T) {
	for _, n := range []int{api.MaxCoded + 1, api.MaxCoded + 2, 1000, 1 << 16, 1<<16 + 1} {
		l := slices.Repeat([]api.Row{{}}, n)
		refusesList(t, l, 0, api.ErrLong)
		l[3] = api.Row{{Kind: 5}}
		refusesList(t, l, 0, api.ErrLong)
		l[n-1] = wide(api.MaxWidth+1, null)
		refusesList(t, l, 0, api.ErrLong)
	}
}

// P6.3, P6.4: a row's error, and its place, wherever it stands; of several rows the first one's, whichever error the others have.
func TestListWrong(t *testing.T) {
	tooWide := wide(api.MaxWidth+1, null)
	for _, n := range []int{1, 2, 3, 257, api.MaxCoded} {
		for _, place := range []int{0, n / 2, n - 1} {
			l := slices.Repeat([]api.Row{{yes, number(5)}}, n)
			for _, v := range wrong() {
				l[place] = api.Row{null, v}
				refusesList(t, l, place, api.ErrValue)
			}
			l[place] = tooWide
			refusesList(t, l, place, api.ErrLong)
			l[place] = wide(api.MaxWidth+1, wrong()[0])
			refusesList(t, l, place, api.ErrLong)
		}
	}
	refusesList(t, []api.Row{{}, tooWide, {{Kind: 5}}}, 1, api.ErrLong)
	refusesList(t, []api.Row{{}, {{Kind: 5}}, tooWide}, 1, api.ErrValue)
	refusesList(t, []api.Row{{{Kind: 5}}, {{Kind: 5}}}, 0, api.ErrValue)
}

// P6.4: how many bytes the list has.
func TestSize(t *testing.T) {
	cases := []struct {
		l    []api.Row
		want int
	}{
		{nil, 2}, {[]api.Row{}, 2}, {[]api.Row{{}}, 3}, {[]api.Row{{null}}, 4}, {[]api.Row{{yes}}, 5}, {[]api.Row{{number(5)}}, 12}, {[]api.Row{{text("ab")}}, 7}, {[]api.Row{{total(0, 0)}}, 20}, {[]api.Row{{null, null}, {}, {text("")}}, 9},
		{slices.Repeat([]api.Row{{}}, api.MaxCoded), 402}, {slices.Repeat([]api.Row{wide(api.MaxWidth, longest)}, api.MaxCoded), 2 + 400*(1+16*42)},
	}
	for _, c := range cases {
		if n, e := codec.Size(c.l); n != c.want || e != api.OK {
			t.Errorf("Size(%v): %d, %d, not %d", c.l, n, e, c.want)
		}
	}
	for _, l := range lists() {
		if n, e := codec.Size(l); n != len(listBytes(l)) || e != api.OK {
			t.Errorf("Size of %d rows: %d, %d, not %d", len(l), n, e, len(listBytes(l)))
		}
	}
}

// The chapter's examples.
func TestExamples(t *testing.T) {
	if b, e := codec.Value(number(-1)); !bytes.Equal(b, octets("02 FF FF FF FF FF FF FF FF")) || e != api.OK {
		t.Errorf("Value(-1): %x, %d", b, e)
	}
	if _, _, e := codec.TakeValue(octets("01 02")); e != api.ErrCode {
		t.Errorf("TakeValue(01 02): %d", e)
	}
	if _, _, e := codec.TakeValue(octets("03 02 61")); e != api.ErrShort {
		t.Errorf("TakeValue(03 02 61): %d", e)
	}
	if r, n, e := codec.TakeRow(octets("02 00 01 01 07")); !slices.Equal(r, api.Row{null, yes}) || n != 4 || e != api.OK {
		t.Errorf("TakeRow(02 00 01 01 07): %v, %d, %d", r, n, e)
	}
	if _, _, e := codec.TakeList(octets("01 91")); e != api.ErrCode {
		t.Errorf("TakeList(01 91): %d", e)
	}
}
