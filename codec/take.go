package codec

import (
	"bowsprit/api"
	"bowsprit/octet"
)

// How many bytes a value (a text of MaxText bytes), a row and a list have at most.
const (
	longestValue = 2 + api.MaxText
	longestRow   = 1 + api.MaxWidth*longestValue
	longestList  = 2 + api.MaxCoded*longestRow
)

// reader embeds octet's, which tells of bytes that end too early; of those that may not be it tells itself.
type reader struct {
	*octet.Reader
	refused bool
}

// upTo is a number that was read, if it is not above the greatest one that may be. From one that is refused nothing more hangs: it is told as 0.
func (r *reader) upTo(greatest, x int) int {
	if x > greatest {
		r.refused = true
		return 0
	}
	return x
}

// why is the first error that was met: behind bytes that ended all that is read is 0, of which nothing is refused.
func (r *reader) why() api.Errno {
	if r.refused {
		return api.ErrCode
	}
	return r.Err()
}

// value reads one; where it comes to an error what it answers is nothing.
func (r *reader) value() api.Value {
	v := api.Value{Kind: r.upTo(api.VSum, int(r.U8()))}
	switch v.Kind {
	case api.VBool:
		v.N = int64(r.upTo(1, int(r.U8())))
	case api.VInt:
		v.N = int64(r.U64())
	case api.VText:
		v.S = string(r.Raw(r.upTo(api.MaxText, int(r.U8()))))
	case api.VSum:
		v.N = int64(r.U64())
		v.U = r.U64()
	}
	return v
}

// row reads how many values there are, and these.
func (r *reader) row() api.Row {
	return several(r, r.upTo(api.MaxWidth, int(r.U8())), (*reader).value)
}

// list reads how many rows there are, and these.
func (r *reader) list() []api.Row {
	return several(r, r.upTo(api.MaxCoded, int(r.U16())), (*reader).row)
}

// several reads so many of a kind, and goes no further than to the first error. It makes no room for them ahead: bytes may say more than they have.
func several[T any](r *reader, count int, one func(*reader) T) []T {
	var l []T
	for range count {
		x := one(r)
		if r.why() != api.OK {
			return nil
		}
		l = append(l, x)
	}
	return l
}

// taken is what b begins with, and how many bytes that are. The reader is handed no more than the longest of it may have, for octet copies all of what it reads.
func taken[T any](b []byte, longest int, one func(*reader) T) (T, int, api.Errno) {
	r := &reader{Reader: octet.Read(b[:min(len(b), longest)])}
	all := r.Left()
	x := one(r)
	if e := r.why(); e != api.OK {
		var nothing T
		return nothing, 0, e
	}
	return x, all - r.Left(), api.OK
}

// TakeValue: P6.1.
func TakeValue(b []byte) (api.Value, int, api.Errno) {
	return taken(b, longestValue, (*reader).value)
}

// TakeRow: P6.2.
func TakeRow(b []byte) (api.Row, int, api.Errno) {
	return taken(b, longestRow, (*reader).row)
}

// TakeList: P6.3.
func TakeList(b []byte) ([]api.Row, int, api.Errno) {
	return taken(b, longestList, (*reader).list)
}
