package link_test

import (
	"math"
	"reflect"
	"slices"
	"strconv"
	"strings"

	"bowsprit/api"
)

// own is the session of most of what is laid here.
const own = 7

var null, yes = api.Value{}, api.Value{Kind: api.VBool, N: 1}

func number(n int64) api.Value {
	return api.Value{Kind: api.VInt, N: n}
}

func text(s string) api.Value {
	return api.Value{Kind: api.VText, S: s}
}

// list reads rows: numbers, NULL, and texts behind a quote; a slash between two rows; a dot is a row of no values.
func list(s string) []api.Row {
	var l []api.Row
	for _, line := range strings.Split(s, "/") {
		r := api.Row{}
		for _, word := range strings.Fields(line) {
			n, err := strconv.ParseInt(word, 10, 64)
			switch {
			case word == ".":
			case word == "NULL":
				r = append(r, null)
			case word[0] == '\'':
				r = append(r, text(word[1:]))
			case err == nil:
				r = append(r, number(n))
			default:
				panic(err)
			}
		}
		l = append(l, r)
	}
	return l
}

// rows is a batch of them; end is that behind so many batches.
func rows(s string) api.Batch {
	return api.Batch{Rows: list(s)}
}

func end(count uint64) api.Batch {
	return api.Batch{End: true, Count: count}
}

// of is a batch for a number, of 1 to MaxBatch rows, no two of which are the same.
func of(n uint64) api.Batch {
	var b api.Batch
	for k := range 1 + n%api.MaxBatch {
		b.Rows = append(b.Rows, api.Row{number(int64(n)), number(int64(k))})
	}
	return b
}

// endOf is the end of that number.
func endOf(n uint64) api.Batch {
	return end(n - 1)
}

// queue is so many batches from a number on; the last one is the end, if it ends.
func queue(from uint64, count int, ends bool) []api.Batch {
	var l []api.Batch
	for k := range count {
		l = append(l, of(from+uint64(k)))
	}
	if ends && count > 0 {
		l[count-1] = endOf(from + uint64(count) - 1)
	}
	return l
}

// held is what came ahead, with such numbers.
func held(numbers ...uint64) []api.Held {
	var l []api.Held
	for _, n := range numbers {
		l = append(l, api.Held{Seq: n, Batch: of(n)})
	}
	return l
}

func data(seq uint64, b api.Batch) api.Packet {
	return api.Packet{Kind: api.PkData, Session: own, Seq: seq, Batch: b}
}

func ack(seq, limit uint64) api.Packet {
	return api.Packet{Kind: api.PkAck, Session: own, Seq: seq, Limit: limit}
}

// sends is a sender of so many batches from base on, of which nothing was sent, with room for all that there may be.
func sends(base uint64, count int) api.Sender {
	return api.Sender{Session: own, Base: base, Queue: queue(base, count, false), Sent: base - 1, Limit: api.MaxSeq}
}

// hears is a receiver that has so many batches in its Buffer, and some ahead.
func hears(room int, next uint64, had int, ahead ...uint64) api.Receiver {
	return api.Receiver{Session: own, Room: room, Next: next, Buffer: queue(next-uint64(had), had, false), Ahead: held(ahead...)}
}

// changing is a thing of which one thing is another.
func changing[T any](x T, change func(*T)) T {
	x = copyOf(x)
	change(&x)
	return x
}

// wrongRows are rows that may not be.
func wrongRows() []api.Row {
	return []api.Row{
		{{Kind: -1}}, {{Kind: 5}}, {{N: 1}}, {{Kind: api.VBool, N: 2}}, {{Kind: api.VInt, S: "5"}}, {number(1), {Kind: api.VInt, U: 1}}, {text(strings.Repeat("a", api.MaxText+1))},
		slices.Repeat(api.Row{null}, api.MaxWidth+1), append(slices.Repeat(api.Row{yes}, api.MaxWidth-1), api.Value{Kind: api.VSum, S: "a"}),
	}
}

// goodRows are rows that may be: such with no value, with sums, as wide as there may be.
func goodRows() []api.Row {
	return []api.Row{
		{}, nil, {null}, {number(math.MinInt64), text("")}, {{Kind: api.VSum, N: -1, U: math.MaxUint64}}, {text(strings.Repeat("\xff", api.MaxText))},
		slices.Repeat(api.Row{yes}, api.MaxWidth), slices.Repeat(api.Row{text("a")}, api.MaxWidth),
	}
}

// shape gives a thing memory of its own; empty lists are nil there.
func shape(v reflect.Value) {
	switch v.Kind() {
	case reflect.Struct:
		for k := range v.NumField() {
			shape(v.Field(k))
		}
	case reflect.Slice:
		if v.Len() == 0 {
			v.SetZero()
			return
		}
		l := reflect.MakeSlice(v.Type(), v.Len(), v.Len())
		reflect.Copy(l, v)
		v.Set(l)
		for k := range v.Len() {
			shape(v.Index(k))
		}
	}
}

// copyOf is a thing with memory of its own.
func copyOf[T any](x T) T {
	shape(reflect.ValueOf(&x).Elem())
	return x
}

// same holds things against one another without the program.
func same[T any](a, b T) bool {
	return reflect.DeepEqual(a, b) || reflect.DeepEqual(copyOf(a), copyOf(b)) // the first is much less work, and mostly enough
}
