package frame_test

import (
	"slices"
	"testing"

	"bowsprit/api"
	"bowsprit/frame"
)

// projected is a message with a plan whose projections have expressions, as few projections as there may be.
func projected(l []api.Expr) api.Msg {
	nodes := []api.LNode{scan(0, ki)}
	for part := range slices.Chunk(l, api.MaxWidth) {
		nodes = append(nodes, project(part...))
	}
	return planMsg(1, planOf(onAll(nodes...)))
}

// ofBytes is a message of just so many bytes, from some dozens on: all of its expressions but the last two are as long as may be.
func ofBytes(t *testing.T, count int) api.Msg {
	t.Helper()
	lacking := func(l []api.Expr) int { return count - 4 - len(layMsg(projected(l))) }
	l := []api.Expr{nots(1), nots(1)}
	for lacking(l) > 1500 {
		l = slices.Insert(l, 0, nots(api.MaxExpr-1))
	}
	left, last := lacking(l), len(l)-1
	l[last-1], l[last] = nots(1+left/2), nots(1+left-left/2)
	if lacking(l) != 0 {
		t.Fatalf("%v, not %v bytes", count-lacking(l), count)
	}
	return projected(l)
}

// P23.1, P23.2: a message of MaxFrame bytes, its seal among them, may be; of one more it may not, though its plan may be laid.
func TestLongestMessage(t *testing.T) {
	for _, count := range []int{300, 19000, api.MaxFrame - 5, api.MaxFrame - 4, api.MaxFrame - 3, api.MaxFrame - 1, api.MaxFrame} {
		m := ofBytes(t, count)
		may(t, m)
		if b, e := frame.Encode(m); len(b) != count || e != api.OK {
			t.Errorf("%v: %v bytes, %v", count, len(b), e)
		}
	}
	for _, count := range []int{api.MaxFrame + 1, api.MaxFrame + 2, api.MaxFrame + 3, api.MaxFrame + 4, api.MaxFrame + 5, api.MaxFrame + 9, 24000, 30000} {
		m := ofBytes(t, count)
		mayNot(t, m)
		mayPlan(t, m.Plan)
		noMsg(t, layMsg(m))
	}
}

// P23.3: plans have no such bound: one whose bytes are many times MaxFrame.
func TestLongPlans(t *testing.T) {
	l := []api.LNode{scan(0, ki)}
	for range 9 {
		l = append(l, project(slices.Repeat([]api.Expr{nots(api.MaxExpr - 1)}, api.MaxWidth)...))
	}
	p := planOf(onAll(l...), onAll(l...), onAll(scan(0, kt)))
	mayPlan(t, p)
	if b, e := frame.EncodePlan(p); len(b) < 10*api.MaxFrame || e != api.OK {
		t.Error(len(b), e)
	}
}

// P23.2: bytes that are too long are told behind those whose sum is wrong, whatever they begin with.
func TestLongBytes(t *testing.T) {
	for _, begin := range [][]byte{nil, layMsg(bare(api.MsgHave)), layMsg(planMsg(1, small())), layMsg(dataMsg(1, end(1, 1)))} {
		for _, count := range []int{api.MaxFrame - 4, api.MaxFrame - 3, api.MaxFrame, api.MaxFrame + 1, 1 << 17} {
			b := append(slices.Clone(begin), make([]byte, count-len(begin))...)
			noMsg(t, b)
			sealed := seal(b)
			sealed[count/2] ^= 4
			if e := isOpened(t, sealed); e != api.ErrSum {
				t.Error(e)
			}
		}
	}
}
