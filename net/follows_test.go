package net_test

import (
	"bytes"
	"math/rand"
	"slices"
	"testing"

	"bowsprit/api"
	"bowsprit/net"
	"bowsprit/sum"
)

// life is what befell a parcel: what was sent, from whom, to whom; at which place which bits were turned (by 0: none were); whether it came, was lost or dropped.
type life struct {
	num      uint64
	from, to int
	sent     []byte
	sealed   bool
	at       int
	by       byte
	gone     bool
}

// bytes are those that it has now.
func (l *life) bytes() []byte {
	b := slices.Clone(l.sent)
	if l.by != 0 {
		b[l.at] ^= l.by
	}
	return b
}

// web is a net, and what befell all parcels that were ever on their way in it.
type web struct {
	*rand.Rand
	n       api.Net
	lives   []*life
	last    uint64 // the Num that was given last
	odds    [7]int // how often each thing is done
	met     tally
	came    int
	spoiled int
	was     []api.Net // what was the net at some time, and what that was then
	then    []api.Net
}

// begins takes a net as it stands.
func begins(seed int64, n api.Net) *web {
	w := &web{Rand: rand.New(rand.NewSource(seed)), n: n, last: n.Sent, met: tally{}}
	for _, p := range n.Parcels {
		l := &life{num: p.Num, from: p.From, to: p.To, sent: slices.Clone(p.Bytes)}
		if p.Spoiled {
			l.at, l.by = 0, 0x40
			l.sent[0] ^= 0x40
		}
		w.lives = append(w.lives, l)
	}
	for k := range w.odds {
		w.odds[k] = 1 + w.Intn(6)
	}
	w.odds[0] += 6
	return w
}

// whole holds that the net is what befell it says, and nothing else.
func (w *web) whole(t *testing.T, what string) {
	t.Helper()
	want := api.Net{Sent: w.last}
	for _, l := range w.lives {
		if !l.gone {
			want.Parcels = append(want.Parcels, api.Parcel{Num: l.num, From: l.from, To: l.to, Bytes: l.bytes(), Spoiled: l.by != 0})
		}
	}
	if !same(w.n, want) || net.Check(w.n) != api.OK || !net.Same(w.n, want) {
		t.Fatalf("%s: %v, not %v", what, short(w.n), short(want))
	}
}

// of is the life of a Num that is on its way, or nil.
func (w *web) of(num uint64) *life {
	for _, l := range w.lives {
		if l.num == num && !l.gone {
			return l
		}
	}
	return nil
}

// any is a Num: mostly of one that is on its way, else of one that is gone, or that was never given.
func (w *web) any() uint64 {
	switch {
	case w.Intn(8) == 0:
		return w.last + uint64(w.Intn(3))
	case len(w.lives) == 0 || w.Intn(8) == 0:
		return uint64(w.Intn(5))
	case w.Intn(3) == 0 || len(w.n.Parcels) == 0:
		return w.lives[w.Intn(len(w.lives))].num
	}
	num, _ := net.Pick(w.n, w.Intn(1000))
	return num
}

// given holds that a Num is the one behind the last one, and lays the life of that.
func (w *web) given(t *testing.T, num uint64, l life) {
	t.Helper()
	if w.last++; num != w.last {
		t.Fatalf("%v, not %v", num, w.last)
	}
	l.num = num
	w.lives = append(w.lives, &l)
}

// full tells whether nothing more can be sent.
func (w *web) full() bool {
	return w.last == api.MaxSent || len(w.n.Parcels) == api.MaxWay
}

// goes on with a net, unless there is an error, which has to be the one that is wanted.
func (w *web) goes(t *testing.T, n api.Net, got, want api.Errno) bool {
	t.Helper()
	w.met[got]++
	if got != want {
		t.Fatalf("%v, not %v", got, want)
	}
	if got != api.OK {
		return false
	}
	w.n = n
	return true
}

// fault is an error, and whether it applies.
type fault struct {
	is bool
	e  api.Errno
}

// first is the first error that applies.
func first(faults ...fault) api.Errno {
	for _, f := range faults {
		if f.is {
			return f.e
		}
	}
	return api.OK
}

func (w *web) send(t *testing.T) {
	from, to := w.Intn(11)-1, w.Intn(11)-1
	l := life{from: from, to: to, sent: long(w.Intn(9))}
	w.Read(l.sent)
	if l.sealed = w.Intn(3) > 0; l.sealed {
		l.sent = sum.Seal32(l.sent)
	}
	if w.Intn(40) == 0 {
		l.sent = long(api.MaxParcel + 1)
	}
	n, num, e := net.Send(w.n, from, to, l.sent)
	if w.goes(t, n, e, first(fault{!nodesByRule(from, to), api.ErrArg}, fault{len(l.sent) > api.MaxParcel, api.ErrLong}, fault{w.full(), api.ErrFull})) {
		w.given(t, num, l)
	}
}

// comes is as it was sent; if it is Spoiled, but for one byte.
func (w *web) comes(t *testing.T, num uint64) {
	l := w.of(num)
	n, p, e := net.Come(w.n, num)
	if !w.goes(t, n, e, first(fault{l == nil, api.ErrNone})) {
		return
	}
	l.gone = true
	w.came++
	differ := 0
	for k, b := range p.Bytes {
		if b != l.sent[k] {
			differ++
		}
	}
	if p.Num != num || p.From != l.from || p.To != l.to || len(p.Bytes) != len(l.sent) || differ != map[bool]int{true: 1}[p.Spoiled] || p.Spoiled != (l.by != 0) || !bytes.Equal(p.Bytes, l.bytes()) {
		t.Fatalf("%v comes of %v", p, *l)
	}
	if !l.sealed {
		return
	}
	b, e := sum.Open32(p.Bytes)
	switch {
	case p.Spoiled:
		w.spoiled++
		if e != api.ErrSum {
			t.Fatalf("%v is opened: %v, %v", p, b, e)
		}
	case e != api.OK || !bytes.Equal(b, l.sent[:len(l.sent)-4]):
		t.Fatalf("%v is not opened: %v, %v", p, b, e)
	}
}

func (w *web) lose(t *testing.T) {
	num := w.any()
	l := w.of(num)
	n, e := net.Lose(w.n, num)
	if w.goes(t, n, e, first(fault{l == nil, api.ErrNone})) {
		l.gone = true
	}
}

func (w *web) drop(t *testing.T) {
	from, to := w.Intn(11)-1, w.Intn(11)-1
	if l := w.of(w.any()); l != nil {
		from, to = l.from, l.to
	}
	n, count, e := net.Drop(w.n, from, to)
	if !w.goes(t, n, e, first(fault{!nodesByRule(from, to), api.ErrArg})) {
		return
	}
	for _, l := range w.lives {
		if !l.gone && l.from == from && l.to == to {
			l.gone = true
			count--
		}
	}
	if count != 0 {
		t.Fatalf("from %v to %v: %v too many", from, to, count)
	}
}

func (w *web) twin(t *testing.T) {
	num := w.any()
	l := w.of(num)
	n, other, e := net.Twin(w.n, num)
	if w.goes(t, n, e, first(fault{l == nil, api.ErrNone}, fault{w.full(), api.ErrFull})) {
		w.given(t, other, *l)
	}
}

func (w *web) spoil(t *testing.T) {
	num := w.any()
	l := w.of(num)
	by, at := byte(w.Intn(4)*w.Intn(86)), w.Intn(12)-1
	if l != nil && len(l.sent) > 0 && w.Intn(2) == 0 {
		at = w.Intn(len(l.sent))
	}
	n, e := net.Spoil(w.n, num, at, by)
	noByte := l != nil && (at < 0 || at >= len(l.sent))
	if w.goes(t, n, e, first(fault{l == nil, api.ErrNone}, fault{l != nil && l.by != 0, api.ErrThere}, fault{noByte || by == 0, api.ErrArg})) {
		l.at, l.by = at, by
	}
}

// asks holds what is told of the net, by what befell it.
func (w *web) asks(t *testing.T) {
	node := w.Intn(11) - 1
	var nums, all []uint64
	for _, l := range w.lives {
		if l.gone {
			continue
		}
		all = append(all, l.num)
		if l.to == node {
			nums = append(nums, l.num)
		}
	}
	if got := net.For(w.n, node); !slices.Equal(got, nums) {
		t.Fatalf("For %v: %v, not %v", node, got, nums)
	}
	k := w.Intn(60) - 5
	num, is := net.Pick(w.n, k)
	if is != (len(all) > 0) || is && num != all[max(k, 0)%len(all)] || !is && num != 0 {
		t.Fatalf("Pick %v: %v, %v of %v", k, num, is, all)
	}
}

// does is one thing that befalls, by its odds.
func (w *web) does(t *testing.T) {
	kind := 0
	for left := w.Intn(w.odds[0] + w.odds[1] + w.odds[2] + w.odds[3] + w.odds[4] + w.odds[5] + w.odds[6]); left >= w.odds[kind]; kind++ {
		left -= w.odds[kind]
	}
	switch kind {
	case 0:
		w.send(t)
	case 1:
		w.comes(t, w.any())
	case 2:
		w.lose(t)
	case 3:
		if w.Intn(3) == 0 {
			w.drop(t)
		}
	case 4:
		w.twin(t)
	case 5:
		w.spoil(t)
	case 6:
		w.asks(t)
	}
	w.whole(t, "behind "+[]string{"Send", "Come", "Lose", "Drop", "Twin", "Spoil", "For"}[kind])
	if w.Intn(10) == 0 {
		w.was, w.then = append(w.was, w.n), append(w.then, copyOf(w.n))
	}
}

// ends has all come that is still on its way, wherever it stands; then nothing that ever was comes again.
func (w *web) ends(t *testing.T) {
	for {
		num, is := net.Pick(w.n, w.Intn(1000))
		if !is {
			break
		}
		w.comes(t, num)
	}
	w.whole(t, "at the end")
	for _, l := range w.lives {
		none(t, w.n, l.num)
		if !l.gone {
			t.Error(*l)
		}
	}
	for k, n := range w.was {
		if !same(n, w.then[k]) {
			t.Errorf("a net that was %v is %v", short(w.then[k]), short(n))
		}
	}
}

// P24.6: nets of chance, with all these calls on them: what comes was sent, as it was, or with one byte that is another one; nothing that is gone comes again; Nums are given one by one; nothing else is changed.
func TestWhatFollows(t *testing.T) {
	met, came, spoiled := tally{}, 0, 0
	for seed := range int64(250) {
		starts := []api.Net{{}, {}, laid(20), sundry(), laid(api.MaxSent - 30), highest(api.MaxSent - 10)}
		w := begins(seed, starts[seed%int64(len(starts))])
		for range 120 {
			w.does(t)
		}
		w.ends(t)
		for e, count := range w.met {
			met[e] += count
		}
		came += w.came
		spoiled += w.spoiled
	}
	met.metAll(t, api.OK, api.ErrArg, api.ErrLong, api.ErrNone, api.ErrThere, api.ErrFull)
	if came < 3000 || spoiled < 300 {
		t.Error(came, spoiled)
	}
}

// P24.6: the same with as many parcels as there may be, or some less.
func TestWhatFollowsOfMany(t *testing.T) {
	full := 0
	for seed := range int64(4) {
		w := begins(seed, many(api.MaxWay-2))
		w.odds[3] = 0
		for range 40 {
			w.does(t)
		}
		full += w.met[api.ErrFull]
	}
	if full == 0 {
		t.Error("nothing was ever full")
	}
}

// P24.6: what was sealed, of whatever length, each of its bytes turned by each other one: it is not opened.
func TestSpoiledIsNotOpened(t *testing.T) {
	for _, count := range []int{0, 1, 2, 5, 30} {
		b := sum.Seal32(long(count))
		n, num, e := net.Send(api.Net{}, 3, 0, b)
		if e != api.OK {
			t.Fatal(e)
		}
		for at := range b {
			for by := 1; by < 256; by++ {
				after, e := net.Spoil(n, num, at, byte(by))
				if e != api.OK {
					t.Fatal(at, by, e)
				}
				_, p, _ := net.Come(after, num)
				if open, e := sum.Open32(p.Bytes); e != api.ErrSum || len(open) != 0 || !p.Spoiled {
					t.Errorf("%v is opened: %v, %v", p, open, e)
				}
			}
		}
		_, p, _ := net.Come(n, num)
		if open, e := sum.Open32(p.Bytes); e != api.OK || !bytes.Equal(open, long(count)) || p.Spoiled {
			t.Errorf("%v is not opened: %v, %v", p, open, e)
		}
	}
}

// P24.6: of a twin the same: the one of a Spoiled one is not opened either, the one that was made ahead of that is.
func TestTwinsOfWhatWasSealed(t *testing.T) {
	b := sum.Seal32([]byte("it comes"))
	n := sends(t, api.Net{}, 3, 0, b)
	n = twins(t, n, 0)
	n = spoiledAt(t, n, 0, 5, 16)
	n = twins(t, n, 0)
	for _, c := range []struct {
		num uint64
		e   api.Errno
	}{{1, api.ErrSum}, {2, api.OK}, {3, api.ErrSum}} {
		after, p, e := net.Come(n, c.num)
		if _, opened := sum.Open32(p.Bytes); e != api.OK || opened != c.e || p.From != 3 || p.To != 0 {
			t.Error(c, p, e, opened)
		}
		n = after
		none(t, n, c.num)
	}
	if !same(n, laid(3)) {
		t.Error(n)
	}
}
