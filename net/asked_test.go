package net_test

import (
	"slices"
	"testing"

	"bowsprit/api"
	"bowsprit/net"
)

// given is what calls are handed.
type given struct {
	Net, Other            api.Net
	From, To, At, Node, K int
	Num                   uint64
	By                    byte
	Bytes                 []byte
}

// answer is what a call answers, as far as it has it.
type answer struct {
	Net    api.Net
	Parcel api.Parcel
	Nums   []uint64
	Num    uint64
	Count  int
	Is     bool
	Err    api.Errno
}

// names are what the calls are called, in their order.
func names() []string {
	return []string{"Check", "Same", "Send", "Come", "Lose", "Drop", "Twin", "Spoil", "For", "Pick"}
}

// calls are all calls.
func calls() []func(g given) answer {
	return []func(g given) answer{
		func(g given) answer { return answer{Err: net.Check(g.Net)} },
		func(g given) answer { return answer{Is: net.Same(g.Net, g.Other)} },
		func(g given) answer {
			n, num, e := net.Send(g.Net, g.From, g.To, g.Bytes)
			return answer{Net: n, Num: num, Err: e}
		},
		func(g given) answer {
			n, p, e := net.Come(g.Net, g.Num)
			return answer{Net: n, Parcel: p, Err: e}
		},
		func(g given) answer {
			n, e := net.Lose(g.Net, g.Num)
			return answer{Net: n, Err: e}
		},
		func(g given) answer {
			n, count, e := net.Drop(g.Net, g.From, g.To)
			return answer{Net: n, Count: count, Err: e}
		},
		func(g given) answer {
			n, num, e := net.Twin(g.Net, g.Num)
			return answer{Net: n, Num: num, Err: e}
		},
		func(g given) answer {
			n, e := net.Spoil(g.Net, g.Num, g.At, g.By)
			return answer{Net: n, Err: e}
		},
		func(g given) answer { return answer{Nums: net.For(g.Net, g.Node)} },
		func(g given) answer {
			num, is := net.Pick(g.Net, g.K)
			return answer{Num: num, Is: is}
		},
	}
}

// asRule holds what a call answers against what it is to answer by rule, and tells that.
func asRule(t *testing.T, name string, g given) answer {
	t.Helper()
	k := slices.Index(names(), name)
	got, want := calls()[k](g), rules()[k](g)
	if !same(got, want) {
		g.Net, g.Other, g.Bytes, got.Net, want.Net = short(g.Net), short(g.Other), g.Bytes[:min(len(g.Bytes), 20)], short(got.Net), short(want.Net)
		t.Errorf("%s of %v: %v, by rule %v", name, g, got, want)
	}
	if want.Err == api.OK && checkByRule(want.Net) != api.OK {
		t.Errorf("%s of %v comes to what may not be: %v", name, g, short(want.Net))
	}
	return got
}

// is holds an answer that is written out.
func is(t *testing.T, name string, got, want answer) {
	t.Helper()
	if !same(got, want) {
		t.Errorf("%s: %v, not %v", name, got, want)
	}
}

// isNet holds whether a net may be.
func isNet(t *testing.T, want bool, n api.Net) {
	t.Helper()
	got := asRule(t, "Check", given{Net: n})
	if got.Err != map[bool]api.Errno{true: api.OK, false: api.ErrNet}[want] {
		t.Errorf("Check(%v): %v, not %v", short(n), got.Err, want)
	}
}

// tally counts what calls answered.
type tally map[api.Errno]int

// metAll holds that each of these was answered, and nothing else.
func (l tally) metAll(t *testing.T, want ...api.Errno) {
	t.Helper()
	for _, e := range want {
		if l[e] == 0 {
			t.Error(e, "was never met:", l)
		}
	}
	if len(l) != len(want) {
		t.Error(l, want)
	}
}
