package arith

import (
	"math/bits"

	"bowsprit/api"
)

// wide is a number of 128 bits: high times 2^64 and low.
type wide struct {
	high int64
	low  uint64
}

// widened is a number of 64 bits as one of 128: the high half is nothing but its sign.
func widened(n int64) wide {
	return wide{high: n >> 63, low: uint64(n)}
}

// wideOf is the number of a sum under way that is not null.
func wideOf(s api.Value) wide {
	return wide{high: s.N, low: s.U}
}

// under is the sum under way of a number.
func (w wide) under() api.Value {
	return api.Value{Kind: api.VSum, N: w.high, U: w.low}
}

// narrowed is a number of 128 bits as one of 64, if it fits: then widening it again makes the same one.
func (w wide) narrowed() (n int64, fits bool) {
	n = int64(w.low)
	return n, widened(n) == w
}

// added is two numbers and a carry of 0 or 1 together. They have gone round where both have one sign, and what comes has the other one.
func added(a, b wide, carry uint64) (sum wide, fits bool) {
	sum.low, carry = bits.Add64(a.low, b.low, carry)
	sum.high = a.high + b.high + int64(carry)
	return sum, (a.high^sum.high)&(b.high^sum.high) >= 0
}

// times is x times y, which always fits. bits.Mul64 takes a number below 0 for one that is 2^64 greater: what it has too much by that is the other number, in the high half.
func times(x, y int64) wide {
	high, low := bits.Mul64(uint64(x), uint64(y))
	product := wide{high: int64(high), low: low}
	if x < 0 {
		product.high -= y
	}
	if y < 0 {
		product.high -= x
	}
	return product
}
