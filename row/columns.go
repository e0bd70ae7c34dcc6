package row

import (
	"cmp"
	"slices"

	"bowsprit/api"
	"bowsprit/sum"
)

// maxParts is of how many lists Part makes at most.
const maxParts = 64

// lacking asks whether columns are columns, and whether each row has them. A row has all of them, if it has the greatest one.
func lacking(columns []int, l ...api.Row) api.Errno {
	if len(columns) > api.MaxWidth {
		return api.ErrArg
	}
	greatest := -1
	for _, c := range columns {
		if c < 0 {
			return api.ErrArg
		}
		greatest = max(greatest, c)
	}
	for _, r := range l {
		if greatest >= len(r) {
			return api.ErrArg
		}
	}
	return api.OK
}

// taken is a row's values at columns that it has.
func taken(r api.Row, columns []int) api.Row {
	out := make(api.Row, len(columns))
	for k, c := range columns {
		out[k] = r[c]
	}
	return out
}

// Take: P5.3.
func Take(r api.Row, columns []int) (api.Row, api.Errno) {
	if e := cmp.Or(Check(r), lacking(columns, r)); e != api.OK {
		return nil, e
	}
	return taken(r, columns), api.OK
}

// put64 lays a number's bytes behind others, the highest first. It writes into the room behind b, which has to be the program's own.
func put64(b []byte, x uint64) []byte {
	for shift := 56; shift >= 0; shift -= 8 {
		b = append(b, byte(x>>shift))
	}
	return b
}

// laid is the bytes of a row that may be: of such a one each Kind, and each text's length, fits a byte.
func laid(r api.Row) []byte {
	var b []byte
	for _, v := range r {
		b = append(b, byte(v.Kind))
		b = put64(put64(b, uint64(v.N)), v.U)
		b = append(b, byte(len(v.S)))
		b = append(b, v.S...)
	}
	return b
}

// hashed is the hash of a row that has the columns.
func hashed(r api.Row, columns []int) uint32 {
	return sum.Sum32(laid(taken(r, columns)))
}

// Hash: P5.3.
func Hash(r api.Row, columns []int) (uint32, api.Errno) {
	if e := cmp.Or(Check(r), lacking(columns, r)); e != api.OK {
		return 0, e
	}
	return hashed(r, columns), api.OK
}

// Groups (P5.4) sorts by the columns ahead of all else: then rows of one group stand side by side, sorted among themselves.
func Groups(l []api.Row, columns []int) ([]api.Group, api.Errno) {
	if e := cmp.Or(refused(l), lacking(columns, l...)); e != api.OK {
		return nil, e
	}
	keyOrder := func(a, b api.Row) int {
		for _, c := range columns {
			if order := valueOrder(a[c], b[c]); order != 0 {
				return order
			}
		}
		return 0
	}
	grouped := sorted(l, func(a, b api.Row) int {
		if order := keyOrder(a, b); order != 0 {
			return order
		}
		return rowOrder(a, b)
	})
	var out []api.Group
	for run := range runs(grouped, keyOrder) {
		out = append(out, api.Group{Key: taken(run[0], columns), Rows: slices.Clone(run)})
	}
	return out, api.OK
}

// Part: P5.4.
func Part(l []api.Row, columns []int, n int) ([][]api.Row, api.Errno) {
	if e := cmp.Or(refused(l), lacking(columns, l...)); e != api.OK {
		return nil, e
	}
	if n < 1 || n > maxParts {
		return nil, api.ErrArg
	}
	parts := map[int][]api.Row{}
	for _, r := range copied(l) {
		place := int(hashed(r, columns) % uint32(n))
		parts[place] = append(parts[place], r)
	}
	out := make([][]api.Row, n)
	for place := range out {
		out[place] = parts[place]
	}
	return out, api.OK
}
