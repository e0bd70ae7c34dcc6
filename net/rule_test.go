package net_test

import (
	"maps"
	"slices"

	"bowsprit/api"
)

// What the chapter says, reckoned apart from the program: parcels stand in a map by their Nums, and a net is laid of these anew.

// rule is a net by its Nums.
type rule struct {
	sent    uint64
	parcels map[uint64]api.Parcel
}

// byRule takes a net apart.
func byRule(n api.Net) rule {
	r := rule{n.Sent, map[uint64]api.Parcel{}}
	for _, p := range n.Parcels {
		r.parcels[p.Num] = copyOf(p)
	}
	return r
}

// net puts one together.
func (r rule) net() api.Net {
	n := api.Net{Sent: r.sent}
	for _, num := range slices.Sorted(maps.Keys(r.parcels)) {
		n.Parcels = append(n.Parcels, copyOf(r.parcels[num]))
	}
	return n
}

// nodesByRule tells whether something may be on its way between such nodes.
func nodesByRule(from, to int) bool {
	var nodes []int
	for node := range 9 {
		nodes = append(nodes, node)
	}
	return slices.Contains(nodes, from) && slices.Contains(nodes, to) && from != to
}

// checkByRule: the Nums rise, if the net that is put together of its parcels is the same.
func checkByRule(n api.Net) api.Errno {
	r := byRule(n)
	if n.Sent > 1<<40 || len(n.Parcels) > 20000 || !same(r.net(), n) {
		return api.ErrNet
	}
	for num, p := range r.parcels {
		if num == 0 || num > n.Sent || !nodesByRule(p.From, p.To) || len(p.Bytes) > 60000 || p.Spoiled && len(p.Bytes) == 0 {
			return api.ErrNet
		}
	}
	return api.OK
}

// isFullByRule tells whether nothing more can be sent.
func (r rule) isFull() bool {
	return len(r.parcels) >= 20000 || r.sent >= 1<<40
}

// with has one more parcel.
func (r rule) with(p api.Parcel) answer {
	p.Num = r.sent + 1
	r.parcels[p.Num] = p
	return answer{Net: rule{p.Num, r.parcels}.net(), Num: p.Num}
}

// without has a parcel less.
func (r rule) without(num uint64) api.Net {
	delete(r.parcels, num)
	return r.net()
}

func sendByRule(g given) answer {
	r := byRule(g.Net)
	switch {
	case checkByRule(g.Net) != api.OK:
		return answer{Err: api.ErrNet}
	case !nodesByRule(g.From, g.To):
		return answer{Err: api.ErrArg}
	case len(g.Bytes) > 60000:
		return answer{Err: api.ErrLong}
	case r.isFull():
		return answer{Err: api.ErrFull}
	}
	return r.with(api.Parcel{From: g.From, To: g.To, Bytes: g.Bytes})
}

func comeByRule(g given) answer {
	r := byRule(g.Net)
	p, there := r.parcels[g.Num]
	switch {
	case checkByRule(g.Net) != api.OK:
		return answer{Err: api.ErrNet}
	case !there:
		return answer{Err: api.ErrNone}
	}
	return answer{Net: r.without(g.Num), Parcel: p}
}

func loseByRule(g given) answer {
	a := comeByRule(g)
	a.Parcel = api.Parcel{}
	return a
}

func dropByRule(g given) answer {
	r := byRule(g.Net)
	switch {
	case checkByRule(g.Net) != api.OK:
		return answer{Err: api.ErrNet}
	case !nodesByRule(g.From, g.To):
		return answer{Err: api.ErrArg}
	}
	maps.DeleteFunc(r.parcels, func(_ uint64, p api.Parcel) bool { return p.From == g.From && p.To == g.To })
	return answer{Net: r.net(), Count: len(g.Net.Parcels) - len(r.parcels)}
}

func twinByRule(g given) answer {
	r := byRule(g.Net)
	p, there := r.parcels[g.Num]
	switch {
	case checkByRule(g.Net) != api.OK:
		return answer{Err: api.ErrNet}
	case !there:
		return answer{Err: api.ErrNone}
	case r.isFull():
		return answer{Err: api.ErrFull}
	}
	return r.with(p)
}

func spoilByRule(g given) answer {
	r := byRule(g.Net)
	p, there := r.parcels[g.Num]
	switch {
	case checkByRule(g.Net) != api.OK:
		return answer{Err: api.ErrNet}
	case !there:
		return answer{Err: api.ErrNone}
	case p.Spoiled:
		return answer{Err: api.ErrThere}
	case g.At < 0 || g.At >= len(p.Bytes) || g.By == 0:
		return answer{Err: api.ErrArg}
	}
	p.Spoiled = true
	b := p.Bytes[g.At]
	p.Bytes[g.At] = b&^g.By | g.By&^b
	r.parcels[g.Num] = p
	return answer{Net: r.net()}
}

func forByRule(g given) answer {
	var a answer
	if checkByRule(g.Net) == api.OK {
		for num, p := range byRule(g.Net).parcels {
			if p.To == g.Node {
				a.Nums = append(a.Nums, num)
			}
		}
	}
	slices.Sort(a.Nums)
	return a
}

func pickByRule(g given) answer {
	nums := slices.Sorted(maps.Keys(byRule(g.Net).parcels))
	if checkByRule(g.Net) != api.OK || len(nums) == 0 {
		return answer{}
	}
	if g.K < 0 {
		return answer{Num: nums[0], Is: true}
	}
	return answer{Num: nums[g.K-g.K/len(nums)*len(nums)], Is: true}
}

// rules are what the calls are to answer, in the order of the calls.
func rules() []func(g given) answer {
	return []func(g given) answer{
		func(g given) answer { return answer{Err: checkByRule(g.Net)} },
		func(g given) answer { return answer{Is: same(g.Net, g.Other)} },
		sendByRule, comeByRule, loseByRule, dropByRule, twinByRule, spoilByRule, forByRule, pickByRule,
	}
}
