package link

import (
	"cmp"
	"slices"

	"bowsprit/api"
	"bowsprit/row"
)

// within tells whether a number is from one to another one.
func within[N cmp.Ordered](n, from, to N) bool {
	return from <= n && n <= to
}

// areRows tells whether rows may be those of a batch.
func areRows(rows []api.Row) bool {
	return within(len(rows), 1, api.MaxBatch) && !slices.ContainsFunc(rows, func(r api.Row) bool { return row.Check(r) != api.OK })
}

// mayBe tells whether a batch of a number may be. The number is at least 1.
func mayBe(b api.Batch, number uint64) bool {
	if b.End {
		return len(b.Rows) == 0 && b.Count == number-1
	}
	return b.Count == 0 && areRows(b.Rows)
}

// followsFrom tells whether batches may be of the numbers from one on, with an End at most as the last one.
func followsFrom(first uint64, l []api.Batch) bool {
	for k, b := range l {
		if !mayBe(b, first+uint64(k)) || b.End && k < len(l)-1 {
			return false
		}
	}
	return true
}

// hasEnd is of batches of which an End is at most the last one.
func hasEnd(l []api.Batch) bool {
	return len(l) > 0 && l[len(l)-1].End
}

// sameBatch holds such that may not be against one another, too.
func sameBatch(a, b api.Batch) bool {
	return row.Same(a.Rows, b.Rows) && a.End == b.End && a.Count == b.Count
}

// sameHeld holds such that may not be against one another, too.
func sameHeld(a, b api.Held) bool {
	return a.Seq == b.Seq && sameBatch(a.Batch, b.Batch)
}

// copied is a list of copies.
func copied[T any](l []T, copyOf func(T) T) []T {
	out := slices.Clone(l)
	for k, x := range l {
		out[k] = copyOf(x)
	}
	return out
}

// copyOfBatch is a batch with rows of its own.
func copyOfBatch(b api.Batch) api.Batch {
	b.Rows = copied(b.Rows, slices.Clone[api.Row])
	return b
}

// copyOfHeld is one with rows of its own.
func copyOfHeld(h api.Held) api.Held {
	h.Batch = copyOfBatch(h.Batch)
	return h
}

// changed is what becomes of an end of a link by what is done to it, unless the end may not be, or that is refused. It is done to a copy.
func changed[E any](end E, check func(E) api.Errno, copyOf func(E) E, done func(*E) api.Errno) (E, api.Errno) {
	var nothing E
	if e := check(end); e != api.OK {
		return nothing, e
	}
	end = copyOf(end)
	if e := done(&end); e != api.OK {
		return nothing, e
	}
	return end, api.OK
}
