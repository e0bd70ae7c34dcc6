package exec_test

import (
	"cmp"
	"encoding/binary"
	"hash/crc32"
	"math/big"
	"slices"

	"bowsprit/api"
	"bowsprit/expr"
	"bowsprit/prop"
)

// What stands here reckons all that the chapter says, apart from the program; just which nodes may be, and what an expression comes to of a row, is left to the layers below.

// mayBeByRule tells whether a value may be.
func mayBeByRule(v api.Value) bool {
	number, rest, letters := v.N != 0, v.U != 0, len(v.S)
	switch v.Kind {
	case kn:
		return !number && !rest && letters == 0
	case kb:
		return (v.N == 0 || v.N == 1) && !rest && letters == 0
	case ki:
		return !rest && letters == 0
	case kt:
		return !number && !rest && letters <= 40
	}
	return v.Kind == ks && letters == 0
}

// fitsByRule tells whether rows fit kinds.
func fitsByRule(rows []api.Row, kinds []int) bool {
	for _, r := range rows {
		if len(r) != len(kinds) {
			return false
		}
		for k, v := range r {
			if !mayBeByRule(v) || v != null && v.Kind != kinds[k] {
				return false
			}
		}
	}
	return len(rows) <= 8000
}

func valuesByRule(a, b api.Value) int {
	return cmp.Or(cmp.Compare(a.Kind, b.Kind), cmp.Compare(a.N, b.N), cmp.Compare(a.U, b.U), cmp.Compare(a.S, b.S))
}

func rowsByRule(a, b api.Row) int {
	return slices.CompareFunc(a, b, valuesByRule)
}

func sortedByRule(rows []api.Row) []api.Row {
	rows = slices.Clone(rows)
	slices.SortFunc(rows, rowsByRule)
	return rows
}

// evalByRule is what an expression comes to of each row; false, if it faults of one.
func evalByRule(x api.Expr, rows []api.Row) (l []api.Value, ok bool) {
	ok = true
	for _, r := range rows {
		v, e := expr.Eval(x, r)
		if e != api.OK && e != api.ErrFault {
			panic(e)
		}
		ok = ok && e == api.OK
		l = append(l, v)
	}
	return l, ok
}

// holdByRule are the rows of which a condition comes to true; false, if it faults of one.
func holdByRule(cond api.Expr, rows []api.Row) (l []api.Row, ok bool) {
	truths, ok := evalByRule(cond, rows)
	for k, v := range truths {
		if v == yes {
			l = append(l, rows[k])
		}
	}
	return l, ok
}

func joinByRule(n api.LNode, a, b []api.Row, width int) (l []api.Row, ok bool) {
	ok = true
	for _, x := range a {
		var all []api.Row
		for _, y := range b {
			all = append(all, slices.Concat(x, y))
		}
		met, may := holdByRule(n.Cond, all)
		if ok = ok && may; len(met) == 0 && n.Left {
			met = []api.Row{slices.Concat(x, make(api.Row, width))}
		}
		l = append(l, met...)
	}
	return l, ok
}

func projectByRule(n api.LNode, a []api.Row) (l []api.Row, ok bool) {
	l, ok = make([]api.Row, len(a)), true
	for _, item := range n.Items {
		values, may := evalByRule(item, a)
		ok = ok && may
		for k, v := range values {
			l[k] = append(l[k], v)
		}
	}
	return l, ok
}

// there are values without nulls.
func there(l []api.Value) []api.Value {
	return slices.DeleteFunc(slices.Clone(l), func(v api.Value) bool { return v == null })
}

// total is the sum of numbers, be they 64 bits or under way.
func total(l []api.Value) *big.Int {
	x := new(big.Int)
	for _, v := range l {
		if v.Kind == ks {
			x.Add(x, numberOf(v))
		} else {
			x.Add(x, big.NewInt(v.N))
		}
	}
	return x
}

// fits128 tells whether a number fits 128 bits.
func fits128(x *big.Int) bool {
	return x.Cmp(minus(power(127, 0))) >= 0 && x.Cmp(power(127, -1)) <= 0
}

// wholeByRule and begunByRule are what an aggregate comes to of rows, and of some of them; false, if it faults.
func wholeByRule(a api.Agg, _ int, rows []api.Row) (api.Value, bool) {
	v, ok := begunByRule(a, 0, rows)
	if v.Kind != ks {
		return v, ok
	}
	return number(numberOf(v).Int64()), ok && numberOf(v).IsInt64()
}

func begunByRule(a api.Agg, _ int, rows []api.Row) (api.Value, bool) {
	if a.Tag == api.AggAll {
		return number(int64(len(rows))), true
	}
	values, ok := evalByRule(a.Arg, rows)
	if !ok {
		return null, false
	}
	values = there(values)
	switch {
	case a.Tag == api.AggCount:
		return number(int64(len(values))), true
	case len(values) == 0:
		return null, true
	case a.Tag == api.AggSum:
		return under(total(values)), true
	case a.Tag == api.AggMin:
		return slices.MinFunc(values, valuesByRule), true
	}
	return slices.MaxFunc(values, valuesByRule), true
}

// endedByRule is what an aggregate comes to of what stands at a place.
func endedByRule(a api.Agg, place int, rows []api.Row) (api.Value, bool) {
	var values []api.Value
	for _, r := range sortedByRule(rows) {
		values = append(values, r[place])
	}
	values = there(values)
	switch {
	case a.Tag == api.AggAll || a.Tag == api.AggCount:
		return number(total(values).Int64()), total(values).IsInt64()
	case len(values) == 0:
		return null, true
	case a.Tag == api.AggMin:
		return slices.MinFunc(values, valuesByRule), true
	case a.Tag == api.AggMax:
		return slices.MaxFunc(values, valuesByRule), true
	}
	for k := range values {
		if !fits128(total(values[:k+1])) {
			return null, false
		}
	}
	return number(total(values).Int64()), total(values).IsInt64()
}

// groupByRule is a row for each group by Keys; of no rows there is one, if ofNone says so, and there are no Keys.
func groupByRule(n api.LNode, a []api.Row, ofNone bool, deed func(a api.Agg, place int, rows []api.Row) (api.Value, bool)) (l []api.Row, ok bool) {
	var heads []api.Row
	var groups [][]api.Row
	if len(n.Keys) == 0 && len(a) == 0 && ofNone {
		heads, groups = []api.Row{nil}, [][]api.Row{nil}
	}
	for _, r := range a {
		head := api.Row{}
		for _, k := range n.Keys {
			head = append(head, r[k])
		}
		at := slices.IndexFunc(heads, func(h api.Row) bool { return slices.Equal(h, head) })
		if at < 0 {
			at, heads, groups = len(heads), append(heads, head), append(groups, nil)
		}
		groups[at] = append(groups[at], r)
	}
	ok = true
	for at, head := range heads {
		for k, x := range n.Aggs {
			v, may := deed(x, len(n.Keys)+k, groups[at])
			ok = ok && may
			head = append(head, v)
		}
		l = append(l, head)
	}
	return l, ok
}

// sortByRule puts each row ahead of all those ahead of which it stands.
func sortByRule(n api.LNode, a []api.Row) []api.Row {
	ahead := func(x, y api.Row) bool {
		for _, o := range n.Order {
			switch c := valuesByRule(x[o.Col], y[o.Col]); {
			case c < 0:
				return !o.Desc
			case c > 0:
				return o.Desc
			}
		}
		return rowsByRule(x, y) < 0
	}
	var l []api.Row
	for _, r := range a {
		at := slices.IndexFunc(l, func(x api.Row) bool { return ahead(r, x) })
		if at < 0 {
			at = len(l)
		}
		l = slices.Insert(l, at, r)
	}
	if n.Limit >= 0 && n.Limit < len(l) {
		l = l[:n.Limit]
	}
	return l
}

// nodeByRule is what a node comes to of what its parts come to, in whatever order; false, if it faults.
func nodeByRule(n api.LNode, d data, a, b []api.Row, width int) ([]api.Row, bool) {
	switch n.Op {
	case api.LScan:
		return d.Tables[n.Table], true
	case api.LInput:
		return d.Inputs[n.Table], true
	case api.LJoin:
		return joinByRule(n, a, b, width)
	case api.LFilter:
		return holdByRule(n.Cond, a)
	case api.LGroup:
		return groupByRule(n, a, true, wholeByRule)
	case api.LPartial:
		return groupByRule(n, a, false, begunByRule)
	case api.LFinal:
		return groupByRule(n, a, true, endedByRule)
	case api.LProject:
		return projectByRule(n, a)
	case api.LDistinct:
		return slices.CompactFunc(slices.Clone(a), slices.Equal), true // it is sorted
	case api.LUnion:
		return slices.Concat(a, b), true
	}
	return sortByRule(n, a), true
}

// handedByRule tells whether what nodes ask for is there, and fits.
func handedByRule(l []api.LNode, d data) bool {
	for _, n := range l {
		lists := d.Tables
		if n.Op == api.LInput {
			lists = d.Inputs
		}
		if n.Op != api.LScan && n.Op != api.LInput {
			continue
		}
		if n.Table >= len(lists) || !fitsByRule(lists[n.Table], n.Kinds) {
			return false
		}
	}
	return true
}

// runByRule is what Run says.
func runByRule(l []api.LNode, d data) ([]api.Row, api.Errno) {
	kinds, _, e := prop.Kinds(l)
	if e != api.OK {
		return nil, api.ErrFrag
	}
	if !handedByRule(l, d) {
		return nil, api.ErrArg
	}
	var came [][]api.Row
	for _, n := range l {
		var a, b []api.Row
		width := 0
		if n.A >= 0 {
			a = came[n.A]
		}
		if n.B >= 0 {
			b, width = came[n.B], len(kinds[n.B])
		}
		rows, ok := nodeByRule(n, d, a, b, width)
		if !ok {
			return nil, api.ErrFault
		}
		if len(rows) > 200 {
			return nil, api.ErrOver
		}
		if n.Op != api.LSort {
			rows = sortedByRule(rows)
		}
		came = append(came, rows)
	}
	return came[len(came)-1], api.OK
}

// kindsByRule are the kinds that rows' values have: of each place that of the first row whose value there is not null.
func kindsByRule(rows []api.Row) []int {
	kinds := make([]int, len(rows[0]))
	for _, r := range slices.Backward(rows) {
		for k := range kinds {
			if k < len(r) && r[k].Kind != kn {
				kinds[k] = r[k].Kind
			}
		}
	}
	return kinds
}

// overByRule is what Partial says (of LPartial), or Final.
func overByRule(op int, n api.LNode, rows []api.Row) ([]api.Row, api.Errno) {
	if n.Op != op || len(rows) == 0 || len(rows) > 8000 {
		return nil, api.ErrArg
	}
	kinds := kindsByRule(rows)
	if _, _, e := prop.Kinds(steps(input(0, kinds...), n)); e != api.OK || !fitsByRule(rows, kinds) {
		return nil, api.ErrArg
	}
	deed := begunByRule
	if op == api.LFinal {
		deed = endedByRule
	}
	l, ok := groupByRule(n, rows, false, deed)
	if !ok {
		return nil, api.ErrFault
	}
	return sortedByRule(l), api.OK
}

// hashByRule is the hash of a row's columns: CRC-32C of its bytes.
func hashByRule(r api.Row, cols []int) uint32 {
	var b []byte
	for _, c := range cols {
		v := r[c]
		b = append(b, byte(v.Kind))
		b = binary.BigEndian.AppendUint64(b, uint64(v.N))
		b = binary.BigEndian.AppendUint64(b, v.U)
		b = append(append(b, byte(len(v.S))), v.S...)
	}
	return crc32.Checksum(b, crc32.MakeTable(crc32.Castagnoli))
}

// goesByRule is what Goes says.
func goesByRule(f api.Frag, rows []api.Row, nodes int) ([][]api.Row, api.Errno) {
	kinds, _, e := prop.Kinds(f.Nodes)
	if e != api.OK || f.Way < api.WayShuffle || f.Way > api.WayRoot || (len(f.Cols) > 0) != (f.Way == api.WayShuffle) || len(f.Cols) > 16 {
		return nil, api.ErrFrag
	}
	root := kinds[len(kinds)-1]
	for _, c := range f.Cols {
		if c < 0 || c >= len(root) {
			return nil, api.ErrFrag
		}
	}
	if nodes < 1 || nodes > 8 || !fitsByRule(rows, root) {
		return nil, api.ErrArg
	}
	if f.Way == api.WayGather || f.Way == api.WayRoot {
		nodes = 1
	}
	l := make([][]api.Row, nodes)
	for k := range l {
		for _, r := range rows {
			if f.Way != api.WayShuffle || int(hashByRule(r, f.Cols)%uint32(nodes)) == k {
				l[k] = append(l[k], r)
			}
		}
	}
	return l, api.OK
}
