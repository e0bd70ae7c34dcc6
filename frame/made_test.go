package frame_test

import (
	"math"
	"reflect"
	"slices"
	"strconv"
	"strings"

	"bowsprit/api"
)

// Values, expressions, nodes, plans, packets and messages are made without the program.
var (
	null = api.Value{}
	no   = api.Value{Kind: api.VBool}
	yes  = api.Value{Kind: api.VBool, N: 1}
)

func number(n int64) api.Value {
	return api.Value{Kind: api.VInt, N: n}
}

func text(s string) api.Value {
	return api.Value{Kind: api.VText, S: s}
}

func sumOf(n int64, u uint64) api.Value {
	return api.Value{Kind: api.VSum, N: n, U: u}
}

// The kinds by short names.
const (
	kn = api.VNull
	kb = api.VBool
	ki = api.VInt
	kt = api.VText
	ks = api.VSum
)

func exprOf(l ...api.ENode) api.Expr {
	return api.Expr{Nodes: l}
}

func lit(v api.Value) api.Expr {
	return exprOf(api.ENode{Tag: api.NLit, L: -1, R: -1, Value: v})
}

func num(n int64) api.Expr {
	return lit(number(n))
}

func col(n int) api.Expr {
	return exprOf(api.ENode{Tag: api.ECol, L: -1, R: -1, Col: n})
}

// on is the expression of a tag over one part, or two.
func on(tag int, parts ...api.Expr) api.Expr {
	root := api.ENode{Tag: tag, L: -1, R: -1}
	var l []api.ENode
	for k, p := range parts {
		by := len(l)
		for _, n := range p.Nodes {
			if n.L >= 0 {
				n.L += by
			}
			if n.R >= 0 {
				n.R += by
			}
			l = append(l, n)
		}
		if k == 0 {
			root.L = len(l) - 1
		} else {
			root.R = len(l) - 1
		}
	}
	return exprOf(append(l, root)...)
}

// nots is true under so many NOTs.
func nots(count int) api.Expr {
	x := lit(yes)
	for k := range count {
		x.Nodes = append(x.Nodes, api.ENode{Tag: api.NNot, L: k, R: -1})
	}
	return x
}

func eq(a, b int) api.Expr {
	return on(api.NEq, col(a), col(b))
}

func agg(tag int, arg ...api.Expr) api.Agg {
	a := api.Agg{Tag: tag}
	for _, x := range arg {
		a.Arg = x
	}
	return a
}

func scan(table int, kinds ...int) api.LNode {
	return api.LNode{Op: api.LScan, Table: table, Kinds: kinds}
}

func input(frag int, kinds ...int) api.LNode {
	return api.LNode{Op: api.LInput, Table: frag, Kinds: kinds}
}

// The nodes of operators that have parts; steps says their places.
func join(cond api.Expr) api.LNode {
	return api.LNode{Op: api.LJoin, Cond: cond}
}

func leftJoin(cond api.Expr) api.LNode {
	return api.LNode{Op: api.LJoin, Left: true, Cond: cond}
}

func filter(cond api.Expr) api.LNode {
	return api.LNode{Op: api.LFilter, Cond: cond}
}

func group(keys []int, aggs ...api.Agg) api.LNode {
	return api.LNode{Op: api.LGroup, Keys: keys, Aggs: aggs}
}

func partial(keys []int, aggs ...api.Agg) api.LNode {
	return api.LNode{Op: api.LPartial, Keys: keys, Aggs: aggs}
}

// final has as many keys as said, and aggregates of tags.
func final(keys int, tags ...int) api.LNode {
	n := api.LNode{Op: api.LFinal, Keys: numbers(0, keys-1)}
	for _, tag := range tags {
		n.Aggs = append(n.Aggs, agg(tag))
	}
	return n
}

func project(items ...api.Expr) api.LNode {
	return api.LNode{Op: api.LProject, Items: items}
}

func distinct() api.LNode {
	return api.LNode{Op: api.LDistinct}
}

func union() api.LNode {
	return api.LNode{Op: api.LUnion}
}

func sortBy(limit int, order ...api.Ord) api.LNode {
	return api.LNode{Op: api.LSort, Order: order, Limit: limit}
}

// partsByRule says how many parts each operator has.
var partsByRule = map[int]int{
	api.LScan: 0, api.LJoin: 2, api.LFilter: 1, api.LGroup: 1, api.LProject: 1, api.LDistinct: 1, api.LUnion: 2, api.LSort: 1,
	api.LInput: 0, api.LPartial: 1, api.LFinal: 1,
}

// placed tells the places that a tree's order has for the parts of things in a row, of which each one has so many; -1, where there is none, or there are too few.
func placed(parts []int) (l [][2]int) {
	var free []int
	for k, count := range parts {
		own := [2]int{-1, -1}
		for side := count - 1; side >= 0 && len(free) > 0; side-- {
			own[side], free = free[len(free)-1], free[:len(free)-1]
		}
		l, free = append(l, own), append(free, k)
	}
	return l
}

// steps are nodes with the places that a tree's order has for their parts.
func steps(l ...api.LNode) []api.LNode {
	l = slices.Clone(l)
	var parts []int
	for _, n := range l {
		parts = append(parts, partsByRule[n.Op])
	}
	for k, own := range placed(parts) {
		l[k].A, l[k].B = own[0], own[1]
	}
	return l
}

// onAll is a fragment of steps at all nodes whose rows are gathered, onOne one at the coordinator's, whose rows are the query's; by is a fragment AtAll whose rows are shuffled.
func onAll(l ...api.LNode) api.Frag {
	return api.Frag{Nodes: steps(l...), At: api.AtAll, Way: api.WayGather}
}

func onOne(l ...api.LNode) api.Frag {
	return api.Frag{Nodes: steps(l...), At: api.AtOne, Way: api.WayRoot}
}

func by(cols []int, l ...api.LNode) api.Frag {
	return api.Frag{Nodes: steps(l...), At: api.AtAll, Way: api.WayShuffle, Cols: cols}
}

func planOf(l ...api.Frag) api.Plan {
	return api.Plan{Frags: l}
}

// small is a plan that may be.
func small() api.Plan {
	return planOf(onAll(scan(0, ki)), onOne(input(0, ki)))
}

// list reads rows: numbers, NULL, and texts behind a quote; a slash between two rows; a dot is a row of no values.
func list(s string) []api.Row {
	var l []api.Row
	for _, line := range strings.Split(s, "/") {
		r := api.Row{}
		for _, word := range strings.Fields(line) {
			n, err := strconv.ParseInt(word, 10, 64)
			switch {
			case word == ".":
			case word == "NULL":
				r = append(r, null)
			case word[0] == '\'':
				r = append(r, text(word[1:]))
			case err == nil:
				r = append(r, number(n))
			default:
				panic(err)
			}
		}
		l = append(l, r)
	}
	return l
}

// The packets of a session that carry rows, the end of a stream, an ack.
func data(session uint32, seq uint64, rows string) api.Packet {
	return api.Packet{Kind: api.PkData, Session: session, Seq: seq, Batch: api.Batch{Rows: list(rows)}}
}

func end(session uint32, seq uint64) api.Packet {
	return api.Packet{Kind: api.PkData, Session: session, Seq: seq, Batch: api.Batch{End: true, Count: seq - 1}}
}

func ack(session uint32, seq, limit uint64) api.Packet {
	return api.Packet{Kind: api.PkAck, Session: session, Seq: seq, Limit: limit}
}

// The messages, all from 2 to 1, of the epoch 3.
func bare(kind int) api.Msg {
	return api.Msg{Kind: kind, From: 2, To: 1, Epoch: 3}
}

func planMsg(sites int, p api.Plan) api.Msg {
	m := bare(api.MsgPlan)
	m.Sites, m.Plan = sites, p
	return m
}

func dataMsg(frag int, p api.Packet) api.Msg {
	m := bare(api.MsgData)
	m.Frag, m.Packet = frag, p
	return m
}

func ackMsg(frag int, p api.Packet) api.Msg {
	m := bare(api.MsgAck)
	m.Frag, m.Packet = frag, p
	return m
}

func failMsg(e api.Errno) api.Msg {
	m := bare(api.MsgFail)
	m.Err = e
	return m
}

// eachKind is a message of each Kind, of the first one on; of those that have several forms one of each.
func eachKind() []api.Msg {
	return []api.Msg{
		planMsg(4, small()), bare(api.MsgHave), dataMsg(4, data(7, 2, "5 'ab' NULL / . / 1")), dataMsg(0, end(7, 4)),
		ackMsg(4, ack(3, 2, 9)), failMsg(api.ErrFault), failMsg(api.ErrOver), bare(api.MsgDrop), bare(api.MsgGone),
	}
}

// changing is a thing of which one thing is another.
func changing[T any](x T, change func(*T)) T {
	x = copyOf(x)
	change(&x)
	return x
}

// numbers are those from one to another; none, if that is less.
func numbers(from, to int) (l []int) {
	for n := from; n <= to; n++ {
		l = append(l, n)
	}
	return l
}

// outside are numbers that are not from one to another.
func outside(from, to int) []int {
	l := []int{from - 1, to + 1, math.MaxInt, math.MinInt, from - 256, from + 256, to + 256, from + 1<<32, to - 1<<32}
	return slices.DeleteFunc(l, func(n int) bool { return from <= n && n <= to })
}

// with is a list with another thing at a place of it.
func with[T any](l []T, at int, x T) []T {
	l = slices.Clone(l)
	l[at] = x
	return l
}

// shape gives a thing memory of its own; empty lists are nil there.
func shape(v reflect.Value) {
	switch v.Kind() {
	case reflect.Struct:
		for k := range v.NumField() {
			shape(v.Field(k))
		}
	case reflect.Slice:
		if v.Len() == 0 {
			v.SetZero()
			return
		}
		l := reflect.MakeSlice(v.Type(), v.Len(), v.Len())
		reflect.Copy(l, v)
		v.Set(l)
		for k := range v.Len() {
			shape(v.Index(k))
		}
	}
}

// copyOf is a thing with memory of its own.
func copyOf[T any](x T) T {
	shape(reflect.ValueOf(&x).Elem())
	return x
}

// same holds things against one another without the program.
func same[T any](a, b T) bool {
	return reflect.DeepEqual(a, b) || reflect.DeepEqual(copyOf(a), copyOf(b)) // the first is much less work, and mostly enough
}
