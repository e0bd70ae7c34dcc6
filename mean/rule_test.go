package mean_test

import (
	"cmp"
	"encoding/binary"
	"hash/crc32"
	"slices"

	"bowsprit/api"
	"bowsprit/exec"
	"bowsprit/place"
	"bowsprit/prop"
)

// What stands here reckons plans apart from the program, from the root on; just which plans and layouts may be, and what a fragment comes to of rows, is left to the layers below.

// nodeOf is the node (from 1 on) where a row lies by the hash of columns: CRC-32C of their bytes.
func nodeOf(r api.Row, cols []int, nodes int) int {
	var b []byte
	for _, c := range cols {
		v := r[c]
		b = append(b, byte(v.Kind))
		b = binary.BigEndian.AppendUint64(b, uint64(v.N))
		b = binary.BigEndian.AppendUint64(b, v.U)
		b = append(append(b, byte(len(v.S))), v.S...)
	}
	return 1 + int(crc32.Checksum(b, crc32.MakeTable(crc32.Castagnoli))%uint32(nodes))
}

func valuesByRule(a, b api.Value) int {
	return cmp.Or(cmp.Compare(a.Kind, b.Kind), cmp.Compare(a.N, b.N), cmp.Compare(a.U, b.U), cmp.Compare(a.S, b.S))
}

func sortedByRule(rows []api.Row) []api.Row {
	rows = slices.Clone(rows)
	slices.SortFunc(rows, func(a, b api.Row) int { return slices.CompareFunc(a, b, valuesByRule) })
	return rows
}

// readerByRule is the fragment that reads another one; -1: none.
func readerByRule(p api.Plan, frag int) int {
	return slices.IndexFunc(p.Frags, func(f api.Frag) bool {
		return slices.ContainsFunc(f.Nodes, func(n api.LNode) bool { return n.Op == api.LInput && n.Table == frag })
	})
}

// placesByRule are the nodes where a fragment runs; none, if there is no such fragment.
func placesByRule(p api.Plan, frag, nodes int) []int {
	switch {
	case frag < 0 || frag >= len(p.Frags):
		return nil
	case p.Frags[frag].At == api.AtOne:
		return []int{0}
	}
	return numbers(1, nodes)
}

// streamsByRule are all streams of a plan.
func streamsByRule(p api.Plan, nodes int) (l []api.Stream) {
	for frag := range p.Frags {
		for _, from := range placesByRule(p, frag, nodes) {
			for _, to := range placesByRule(p, readerByRule(p, frag), nodes) {
				l = append(l, api.Stream{Frag: frag, From: from, To: to})
			}
		}
	}
	return l
}

// told is what is said of an instance.
type told struct {
	rows    []api.Row
	reached bool
	err     api.Errno
}

// comesToRows tells whether it comes to rows.
func (x told) comesToRows() bool {
	return x.reached && x.err == api.OK
}

// reckoner reckons a plan over a layout; what it has reckoned of an instance it keeps, by the fragment and the node.
type reckoner struct {
	api.Plan
	layout api.Layout
	kept   map[[2]int]told
}

func reckoned(p api.Plan, l api.Layout) reckoner {
	return reckoner{p, l, map[[2]int]told{}}
}

func (r reckoner) nodes() int {
	return len(r.layout.Parts)
}

// instance is what is to be said of one that there is.
func (r reckoner) instance(frag, node int) told {
	at := [2]int{frag, node}
	if _, is := r.kept[at]; !is {
		r.kept[at] = r.ofInstance(frag, node)
	}
	return r.kept[at]
}

func (r reckoner) ofInstance(frag, node int) told {
	f, inputs := r.Frags[frag], make([][]api.Row, len(r.Frags))
	for _, n := range f.Nodes {
		if n.Op != api.LInput {
			continue
		}
		for _, from := range placesByRule(r.Plan, n.Table, r.nodes()) {
			if !r.instance(n.Table, from).comesToRows() {
				return told{}
			}
			inputs[n.Table] = append(inputs[n.Table], r.stream(api.Stream{Frag: n.Table, From: from, To: node})...)
		}
		inputs[n.Table] = sortedByRule(inputs[n.Table])
	}
	var tables [][]api.Row
	if node > 0 {
		tables = r.layout.Parts[node-1].Tables
	}
	rows, e := exec.Run(f, tables, inputs)
	return told{rows, true, e}
}

// stream is what goes on a stream that there is.
func (r reckoner) stream(s api.Stream) (rows []api.Row) {
	f := r.Frags[s.Frag]
	for _, x := range r.instance(s.Frag, s.From).rows {
		if f.Way != api.WayShuffle || nodeOf(x, f.Cols, r.nodes()) == s.To {
			rows = append(rows, x)
		}
	}
	return rows
}

// mean is what the plan means.
func (r reckoner) mean() (m api.Mean) {
	for frag := range r.Frags {
		for _, node := range placesByRule(r.Plan, frag, r.nodes()) {
			x := r.instance(frag, node)
			m.Fault = m.Fault || x.err == api.ErrFault
			m.Over = m.Over || x.err == api.ErrOver
			m.Rows = x.rows
		}
	}
	return m
}

// errByRule is the error that goes ahead of all else.
func errByRule(p api.Plan, c api.Catalog, l api.Layout) api.Errno {
	_, _, e := prop.Check(p, c)
	return cmp.Or(e, place.Check(c, l))
}

// mayByRule is what May says.
func mayByRule(m api.Mean, rows []api.Row, e api.Errno) bool {
	switch {
	case e == api.OK:
		return !m.Fault && !m.Over && same(rows, m.Rows)
	case len(rows) > 0:
		return false
	}
	return e == api.ErrFault && m.Fault || e == api.ErrOver && m.Over
}
