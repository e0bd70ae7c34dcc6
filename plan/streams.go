package plan

import (
	"iter"

	"bowsprit/api"
	"bowsprit/prop"
)

// places are those of a fragment, of so many nodes.
func places(f api.Frag, nodes int) []int {
	if f.At == api.AtOne {
		return []int{0}
	}
	var l []int
	for k := range nodes {
		l = append(l, k+1)
	}
	return l
}

// streams goes over all streams of a plan, whatever one, of so many nodes; with each it tells the number of the fragment to which it comes.
func streams(p api.Plan, nodes int) iter.Seq2[api.Stream, int] {
	return func(yield func(api.Stream, int) bool) {
		for frag, f := range p.Frags {
			reader, _, read := prop.Reader(p, frag)
			if !read {
				continue
			}
			for _, from := range places(f, nodes) {
				for _, to := range places(p.Frags[reader], nodes) {
					if !yield(api.Stream{Frag: frag, From: from, To: to}, reader) {
						return
					}
				}
			}
		}
	}
}

// picked are the streams of which something holds, in their order; ErrArg, if the plan may not be asked for that fragment and so many nodes.
func picked(p api.Plan, frag, nodes int, holds func(s api.Stream, reader int) bool) ([]api.Stream, api.Errno) {
	if !mayAsk(p, frag, nodes) {
		return nil, api.ErrArg
	}
	var l []api.Stream
	for s, reader := range streams(p, nodes) {
		if holds(s, reader) {
			l = append(l, s)
		}
	}
	return l, api.OK
}
