package expr

import (
	"slices"

	"bowsprit/api"
	"bowsprit/arith"
	"bowsprit/value"
)

// deed is what a tag does with what its node's parts came to. In the place of a part that is not there it is handed the zero: that is null, or its kind, which any deed takes.
type deed[T any] func(l, r T) (T, api.Errno)

// reckoned is what an expression that may be comes to, node by node: a leaf to what is told of it, each other node to what its tag does; or the first error of one.
func reckoned[T any](e api.Expr, leaf func(api.ENode) T, deeds map[int]deed[T]) (T, api.Errno) {
	var stack []T
	pop := func(there bool) (top T) {
		if there {
			last := len(stack) - 1
			top, stack = stack[last], stack[:last]
		}
		return top
	}
	var x T
	var err api.Errno
nodes:
	for _, n := range e.Nodes {
		switch n.Tag {
		case api.NLit, api.ECol:
			x = leaf(n)
		default:
			r := pop(n.R >= 0)
			l := pop(n.L >= 0)
			if x, err = deeds[n.Tag](l, r); err != api.OK {
				break nodes
			}
		}
		stack = append(stack, x)
	}
	return x, err
}

// eachColumn tells whether something holds of the number of each column that an expression has.
func eachColumn(e api.Expr, holds func(column int) bool) bool {
	for _, n := range e.Nodes {
		if n.Tag == api.ECol && !holds(n.Col) {
			return false
		}
	}
	return true
}

// noKind tells of what is none of the kinds that a column may be of.
func noKind(kind int) bool {
	return kind < api.VNull || kind > api.VText
}

// ofEach takes parts of one kind, or null, and comes to that kind.
func ofEach(kind int) deed[int] {
	return func(l, r int) (int, api.Errno) {
		if l != kind && l != api.VNull || r != kind && r != api.VNull {
			return 0, api.ErrKind
		}
		return kind, api.OK
	}
}

// ofAny takes parts of all kinds, and comes to a truth.
func ofAny(l, r int) (int, api.Errno) {
	return api.VBool, api.OK
}

// ofAlike takes parts that may be held against one another, and comes to a truth.
func ofAlike(l, r int) (int, api.Errno) {
	if l != r && l != api.VNull && r != api.VNull {
		return 0, api.ErrKind
	}
	return api.VBool, api.OK
}

// kindDeeds are what tags do with kinds.
func kindDeeds() map[int]deed[int] {
	ofNumbers, ofTruths := ofEach(api.VInt), ofEach(api.VBool)
	return map[int]deed[int]{
		api.NNeg:     ofNumbers,
		api.NNot:     ofTruths,
		api.NIsNull:  ofAny,
		api.NNotNull: ofAny,
		api.NAdd:     ofNumbers,
		api.NSub:     ofNumbers,
		api.NMul:     ofNumbers,
		api.NDiv:     ofNumbers,
		api.NEq:      ofAlike,
		api.NNe:      ofAlike,
		api.NLt:      ofAlike,
		api.NLe:      ofAlike,
		api.NGt:      ofAlike,
		api.NGe:      ofAlike,
		api.NAnd:     ofTruths,
		api.NOr:      ofTruths,
	}
}

// Kind (P10.3) finds none as soon as a part has none, so of NIsNull and NNotNull, too: what is asked so would not come to a truth.
func Kind(e api.Expr, kinds []int) (int, api.Errno) {
	if !isExpr(e) {
		return 0, api.ErrExpr
	}
	if slices.ContainsFunc(kinds, noKind) || !eachColumn(e, func(c int) bool { return c < len(kinds) }) {
		return 0, api.ErrArg
	}
	leaf := func(n api.ENode) int {
		if n.Tag == api.ECol {
			return kinds[n.Col]
		}
		return n.Value.Kind
	}
	return reckoned(e, leaf, kindDeeds())
}

// ofLeft is the deed of a tag with one part.
func ofLeft(f func(api.Value) (api.Value, api.Errno)) deed[api.Value] {
	return func(l, _ api.Value) (api.Value, api.Errno) { return f(l) }
}

// turned is a deed with its parts the other way round.
func turned(d deed[api.Value]) deed[api.Value] {
	return func(l, r api.Value) (api.Value, api.Errno) { return d(r, l) }
}

// denied is Not of what a deed comes to.
func denied(d deed[api.Value]) deed[api.Value] {
	return func(l, r api.Value) (api.Value, api.Errno) {
		v, err := d(l, r)
		if err != api.OK {
			return v, err
		}
		return value.Not(v)
	}
}

func isNull(v api.Value) (api.Value, api.Errno) {
	return value.Bool(v == value.Null()), api.OK
}

// valueDeeds are what tags do with values.
func valueDeeds() map[int]deed[api.Value] {
	return map[int]deed[api.Value]{
		api.NNeg:     ofLeft(arith.Neg),
		api.NNot:     ofLeft(value.Not),
		api.NIsNull:  ofLeft(isNull),
		api.NNotNull: denied(ofLeft(isNull)),
		api.NAdd:     arith.Add,
		api.NSub:     arith.Sub,
		api.NMul:     arith.Mul,
		api.NDiv:     arith.Div,
		api.NEq:      value.Equal,
		api.NNe:      denied(value.Equal),
		api.NLt:      value.Less,
		api.NLe:      denied(turned(value.Less)),
		api.NGt:      turned(value.Less),
		api.NGe:      denied(value.Less),
		api.NAnd:     value.And,
		api.NOr:      value.Or,
	}
}

// Eval (P10.4) asks of the row just the columns that the expression has. All values are plain, so what a deed refuses (ErrArg) is their kinds.
func Eval(e api.Expr, r api.Row) (api.Value, api.Errno) {
	if !isExpr(e) {
		return api.Value{}, api.ErrExpr
	}
	if !eachColumn(e, func(c int) bool { return c < len(r) && value.Plain(r[c]) }) {
		return api.Value{}, api.ErrArg
	}
	leaf := func(n api.ENode) api.Value {
		if n.Tag == api.ECol {
			return r[n.Col]
		}
		return n.Value
	}
	v, err := reckoned(e, leaf, valueDeeds())
	if err == api.ErrArg {
		err = api.ErrKind
	}
	return v, err
}
