package link_test

import (
	"fmt"
	"slices"
	"testing"

	"bowsprit/api"
	"bowsprit/link"
)

// place is where a small stream may stand: its flow, and what was ever said, any of which may come at any time, as often as it likes.
type place struct {
	flow
	said []api.Packet
}

// says is the place with one more packet, if it was not said before.
func (p place) says(l ...api.Packet) place {
	p.said = slices.Clone(p.said)
	for _, x := range l {
		if !slices.ContainsFunc(p.said, func(y api.Packet) bool { return same(x, y) }) {
			p.said = append(p.said, x)
		}
	}
	return p
}

// name is the same of two places at which all stands alike.
func (p place) name() string {
	var numbers []string
	for _, x := range p.said {
		numbers = append(numbers, fmt.Sprint(x.Kind, x.Seq, x.Limit))
	}
	slices.Sort(numbers)
	return fmt.Sprint(p.s, p.r, len(p.left), len(p.taken), numbers)
}

// next are all places to which one thing that befalls leads.
func (p place) next(t *testing.T) (l []place) {
	if len(p.left) > 0 {
		x := p
		var e api.Errno
		x.s, e = putOne(p.s, p.left[0])
		must(t, e)
		x.left = p.left[1:]
		l = append(l, x)
	}
	x := p
	after, packets, e := link.Tick(p.s)
	must(t, e)
	x.s = after
	l = append(l, x.says(packets...))
	heard, e := link.Ack(p.r)
	must(t, e)
	l = append(l, p.says(heard))
	if len(p.r.Buffer) > 0 {
		x := p
		r, b, e := link.Take(p.r)
		must(t, e)
		x.r, x.taken = r, append(slices.Clone(p.taken), b)
		l = append(l, x)
	}
	for _, packet := range p.said {
		x := p
		x.s, e = link.Acked(p.s, packet)
		must(t, e)
		x.r, e = link.Hear(p.r, packet)
		must(t, e)
		l = append(l, x)
	}
	return l
}

// P22.6: of small streams, each place that can be come to at all, whatever is lost, doubled, late and turned about: what was taken is a beginning of what was put, there is room, and the end is met from there.
func TestEachPlaceThatCanBeReached(t *testing.T) {
	for _, c := range []struct{ count, room, least int }{{0, 1, 30}, {1, 1, 100}, {1, 2, 300}, {2, 1, 250}, {2, 2, 1500}, {2, 3, 3500}, {3, 1, 600}, {3, 2, 8000}, {3, 3, 20000}, {4, 1, 1200}} {
		first := place{flow: flow{first: 1, all: stream(uint64(c.count))}}
		first.s, first.r = begin(t, own, c.room)
		first.left = first.all
		seen := map[string]bool{first.name(): true}
		over := 0
		for todo := []place{first}; len(todo) > 0; todo = todo[1:] {
			p := todo[0]
			p.isSound(t)
			p.ends(t, &web{}, len(seen)%2 == 0, false)
			over += map[bool]int{true: 1}[p.r.Over]
			for _, x := range p.next(t) {
				if name := x.name(); !seen[name] {
					seen[name] = true
					todo = append(todo, x)
				}
			}
		}
		if len(seen) < c.least || over == 0 {
			t.Error(c, len(seen), over)
		}
	}
}
