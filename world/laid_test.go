package world_test

import (
	"math"
	"slices"
	"strings"

	"bowsprit/api"
	"bowsprit/frame"
	"bowsprit/place"
	"bowsprit/query"
)

// sites is how many nodes most worlds that are laid here have beside the coordinator's.
const sites = 3

// tables are those of most worlds' catalog: t, by one of its columns, and u, anyhow.
func tables() api.Catalog {
	return cat(tab("t", "a int b text", 0), tab("u", "c int"))
}

// placed is a layout of tables, of so many parts: rows of t lie where their keys say, those of u as they are told of each node.
func placed(t string, u ...string) api.Layout {
	l := api.Layout{Parts: make([]api.Base, len(u))}
	for k, s := range u {
		l.Parts[k].Tables = [][]api.Row{nil, list(s)}
	}
	for _, r := range list(t) {
		node, e := place.Where(tables(), 0, r, len(u))
		if e != api.OK {
			panic(t)
		}
		own := l.Parts[node-1].Tables
		own[0] = append(own[0], r)
	}
	return l
}

// parts are those of most worlds.
func parts() api.Layout {
	return placed("1 'x' / 2 'y' / 3 'x' / 5 '' / 9 'z' / NULL 'y'", "5 / 3", "9", "")
}

// worldOf is a world at its beginning.
func worldOf(c api.Catalog, l api.Layout) api.World {
	w := api.World{Coord: api.Coord{Worker: api.Worker{Sites: len(l.Parts), Catalog: c}}}
	for k, part := range l.Parts {
		w.Workers = append(w.Workers, api.Worker{Node: k + 1, Sites: len(l.Parts), Catalog: c, Tables: part.Tables})
	}
	return copyOf(w)
}

func plain() api.World {
	return worldOf(tables(), parts())
}

// of is a world of which one thing is another.
func of(w api.World, change func(w *api.World)) api.World {
	return changing(w, change)
}

// The events, by what counts of each Kind.
func submit(text string) api.Event {
	return api.Event{Kind: api.EvSubmit, Text: text}
}

func cancel(epoch int) api.Event {
	return api.Event{Kind: api.EvCancel, Epoch: epoch}
}

func tick(node int) api.Event {
	return api.Event{Kind: api.EvTick, Node: node}
}

func come(num uint64) api.Event {
	return api.Event{Kind: api.EvCome, Num: num}
}

func lose(num uint64) api.Event {
	return api.Event{Kind: api.EvLose, Num: num}
}

func drop(from, to int) api.Event {
	return api.Event{Kind: api.EvDrop, Node: from, To: to}
}

func twin(num uint64) api.Event {
	return api.Event{Kind: api.EvTwin, Num: num}
}

func spoilt(num uint64, at int, by byte) api.Event {
	return api.Event{Kind: api.EvSpoil, Num: num, At: at, By: by}
}

// reached is a world behind events, by rule.
func reached(w api.World, events ...api.Event) api.World {
	w = copyOf(w)
	for _, e := range events {
		after, r := doneByRule(w, e)
		if r.Err != api.OK {
			panic(r.Err)
		}
		w = after
	}
	return w
}

// behind is a world behind so many fair rounds, by rule.
func behind(w api.World, n int) api.World {
	return roundsByRule(given{World: w, N: n}).World
}

// The texts of most queries: one of u alone, one of both tables, one that faults, one that is too much, and one that does not compile.
const (
	ofU    = "SELECT c FROM u"
	ofBoth = "SELECT b, COUNT(*) AS n FROM t JOIN u ON a = c GROUP BY b ORDER BY b"
	faults = "SELECT 1 / (c - 9) FROM u"
	unwise = "SELECT zz FROM u"
)

// midst is a world in the midst of its work: queries run, are over, are cancelled, and all kinds of messages are on their way, some of them twice, some spoiled.
func midst() api.World {
	w := reached(plain(), submit(ofU), submit(ofBoth), submit(unwise), submit(faults), submit(ofU))
	w = behind(w, 2)
	w = reached(w, cancel(5), submit(ofU), tick(1), tick(0), tick(2), tick(3))
	w = reached(w, twin(w.Net.Parcels[0].Num), twin(w.Net.Parcels[7].Num), spoilt(w.Net.Parcels[3].Num, 2, 9))
	for range 9 {
		w = reached(w, come(w.Net.Parcels[4].Num))
	}
	return w
}

// done is a world whose queries are all over, and forgotten.
func done() api.World {
	return behind(midst(), 30)
}

// worlds are such as may be, at their beginning, in the midst of their work, and behind it.
func worlds() []api.World {
	return []api.World{plain(), midst(), done()}
}

// parcel is one on its way with a message's bytes.
func parcel(num uint64, from, to int, m api.Msg) api.Parcel {
	b, e := frame.Encode(m)
	if e != api.OK {
		panic(e)
	}
	return api.Parcel{Num: num, From: from, To: to, Bytes: b}
}

// netOf is one of parcels, of which the last one was sent last.
func netOf(l ...api.Parcel) api.Net {
	n := api.Net{Parcels: l}
	if len(l) > 0 {
		n.Sent = l[len(l)-1].Num
	}
	return n
}

// with is a world that has just these parcels on their way.
func with(w api.World, l ...api.Parcel) api.World {
	return of(w, func(w *api.World) { w.Net = netOf(l...) })
}

// sending is a world by which messages were sent besides.
func sending(w api.World, said ...api.Msg) api.World {
	return of(w, func(w *api.World) {
		for _, m := range said {
			w.Net.Sent++
			w.Net.Parcels = append(w.Net.Parcels, parcel(w.Net.Sent, m.From, m.To, m))
		}
	})
}

// without is a world without the parcel of a Num.
func without(w api.World, num uint64) api.World {
	return of(w, func(w *api.World) {
		w.Net.Parcels = slices.DeleteFunc(w.Net.Parcels, func(p api.Parcel) bool { return p.Num == num })
	})
}

// many are parcels of which each has so many bytes.
func many(count, bytes int) (l []api.Parcel) {
	for k := range count {
		l = append(l, api.Parcel{Num: uint64(k + 1), From: 1, To: 2, Bytes: slices.Repeat([]byte{byte(k)}, bytes)})
	}
	return l
}

// setOf is the set that has just these bits.
func setOf(l ...int) (set uint32) {
	for _, place := range l {
		set |= 1 << place
	}
	return set
}

// message is one of a Kind.
func message(kind, epoch, from, to int) api.Msg {
	return api.Msg{Kind: kind, Epoch: epoch, From: from, To: to}
}

// planFor tells a node of a query's plan.
func planFor(epoch, node int, text string) api.Msg {
	p, _, e := query.Compile(tables(), text)
	if e != api.OK {
		panic(text)
	}
	m := message(api.MsgPlan, epoch, 0, node)
	m.Sites, m.Plan = sites, p.Plan
	return m
}

func failure(epoch, from int, e api.Errno) api.Msg {
	m := message(api.MsgFail, epoch, from, 0)
	m.Err = e
	return m
}

// wants says of a stream which number is wanted next: there is room for as many as may be.
func wants(epoch, frag, from, to int, next uint64) api.Msg {
	m := message(api.MsgAck, epoch, from, to)
	m.Frag, m.Packet = frag, api.Packet{Kind: api.PkAck, Session: uint32(epoch), Seq: next, Limit: next - 1 + api.MaxHold}
	return m
}

// data is a batch of a stream; of rows, or the end.
func data(epoch, frag, from, to int, seq uint64, rows string) api.Msg {
	m := message(api.MsgData, epoch, from, to)
	m.Frag, m.Packet = frag, api.Packet{Kind: api.PkData, Session: uint32(epoch), Seq: seq, Batch: api.Batch{Rows: list(rows)}}
	if rows == "" {
		m.Packet.Batch = api.Batch{End: true, Count: seq - 1}
	}
	return m
}

// came is a report of rows, of columns that are called so; failed is one of an error, which has a place, if it is a static one.
func came(rows string, names ...string) api.Report {
	return api.Report{Names: names, Rows: list(rows)}
}

func failed(e api.Errno, at int) api.Report {
	return api.Report{Err: e, At: at}
}

func over(epoch int, r api.Report) api.Life {
	return api.Life{Epoch: epoch, State: api.LifeOver, Report: r}
}

// numbers are those from one to another.
func numbers(from, to int) (l []int) {
	for n := from; n <= to; n++ {
		l = append(l, n)
	}
	return l
}

// far are numbers far from all that there may be, some of them like such in fewer bytes.
func far() []int {
	return []int{math.MinInt, -1 << 32, math.MaxInt, 1 << 31, 1<<32 + 1, 1<<32 + 2, 1<<32 + 12}
}

// long is a text of so many bytes that would compile, if it were not too long.
func long(bytes int) string {
	return ofU + strings.Repeat(" ", bytes-len(ofU))
}
