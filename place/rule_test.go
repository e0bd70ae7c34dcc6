package place_test

import (
	"cmp"
	"encoding/binary"
	"hash/crc32"
	"slices"

	"bowsprit/api"
)

// hashByRule reckons a hash apart from the program.
func hashByRule(r api.Row, columns []int) uint32 {
	var b []byte
	for _, c := range columns {
		v := r[c]
		b = append(b, byte(v.Kind))
		b = binary.BigEndian.AppendUint64(b, uint64(v.N))
		b = binary.BigEndian.AppendUint64(b, v.U)
		b = append(append(b, byte(len(v.S))), v.S...)
	}
	return crc32.Checksum(b, crc32.MakeTable(crc32.Castagnoli))
}

// nodeByRule is the node at which a row lies by its Keys; 0, if there are none.
func nodeByRule(t api.Table, r api.Row, nodes int) int {
	if len(t.Keys) == 0 {
		return 0
	}
	return int(uint64(hashByRule(r, t.Keys))%uint64(nodes)) + 1
}

// valueByRule tells whether a value may be a column's.
func valueByRule(v api.Value, kind int) bool {
	switch v.Kind {
	case api.VNull:
		return v == api.Value{}
	case kind:
		return v == api.Value{Kind: kind, N: v.N} && (kind == api.VInt || kind == api.VBool && (v.N == 0 || v.N == 1)) || kind == api.VText && v == api.Value{Kind: kind, S: v.S} && len(v.S) <= 40
	}
	return false
}

func rowByRule(t api.Table, r api.Row) bool {
	if len(r) != len(t.Columns) {
		return false
	}
	for k, v := range r {
		if !valueByRule(v, t.Columns[k].Kind) {
			return false
		}
	}
	return true
}

// layoutByRule tells whether a layout may be one of a catalog that may be.
func layoutByRule(c api.Catalog, l api.Layout) bool {
	if len(l.Parts) == 0 || len(l.Parts) > 8 {
		return false
	}
	for _, part := range l.Parts {
		if len(part.Tables) != len(c.Tables) {
			return false
		}
	}
	for k, t := range c.Tables {
		count := 0
		for _, part := range l.Parts {
			for _, r := range part.Tables[k] {
				if !rowByRule(t, r) {
					return false
				}
			}
			count += len(part.Tables[k])
		}
		if count > 12 {
			return false
		}
	}
	return true
}

// obeysByRule asks a layout that may be.
func obeysByRule(c api.Catalog, l api.Layout) bool {
	for k, t := range c.Tables {
		for place, part := range l.Parts {
			for _, r := range part.Tables[k] {
				if len(t.Keys) > 0 && nodeByRule(t, r, len(l.Parts)) != place+1 {
					return false
				}
			}
		}
	}
	return true
}

// spreadByRule is the place at which a spread lays a row. To what is left of a number below 0 nodes is added, not to the number itself: that would last.
func spreadByRule(at int, nodes int, spread []int) int {
	if len(spread) == 0 {
		return at % nodes
	}
	n := spread[at%len(spread)] % nodes
	for n < 0 {
		n += nodes
	}
	return n
}

// layByRule lays a database.
func layByRule(c api.Catalog, b api.Base, nodes int, spread []int) api.Layout {
	l := bare(c, nodes)
	for k, t := range c.Tables {
		for at, r := range b.Tables[k] {
			place := spreadByRule(at, nodes, spread)
			if len(t.Keys) > 0 {
				place = nodeByRule(t, r, nodes) - 1
			}
			l.Parts[place].Tables[k] = append(l.Parts[place].Tables[k], r)
		}
	}
	return l
}

// orderByRule is the order of rows.
func orderByRule(a, b api.Row) int {
	for k := 0; k < len(a) && k < len(b); k++ {
		v, w := a[k], b[k]
		if c := cmp.Or(cmp.Compare(v.Kind, w.Kind), cmp.Compare(v.N, w.N), cmp.Compare(v.U, w.U), cmp.Compare(v.S, w.S)); c != 0 {
			return c
		}
	}
	return cmp.Compare(len(a), len(b))
}

// sortedByRule is a database with each table sorted.
func sortedByRule(b api.Base) api.Base {
	var out api.Base
	for _, l := range b.Tables {
		l = slices.Clone(l)
		slices.SortFunc(l, orderByRule)
		out.Tables = append(out.Tables, l)
	}
	return out
}

// gatherByRule puts all parts together, sorted.
func gatherByRule(c api.Catalog, l api.Layout) api.Base {
	b := base(make([][]api.Row, len(c.Tables))...)
	for _, part := range l.Parts {
		for k, rows := range part.Tables {
			b.Tables[k] = append(b.Tables[k], rows...)
		}
	}
	return sortedByRule(b)
}

// moveByRule takes a row out, and lays it behind the others at another node.
func moveByRule(l api.Layout, table, from, at, to int) api.Layout {
	l = copyOf(l)
	rows := &l.Parts[from-1].Tables[table]
	r := (*rows)[at]
	*rows = slices.Delete(*rows, at, at+1)
	rows = &l.Parts[to-1].Tables[table]
	*rows = append(*rows, r)
	return l
}
