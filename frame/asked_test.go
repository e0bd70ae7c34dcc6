package frame_test

import (
	"bytes"
	"encoding/hex"
	"strings"
	"testing"

	"bowsprit/api"
	"bowsprit/frame"
)

// unhex reads bytes to the base 16, with gaps anywhere.
func unhex(s string) []byte {
	b, err := hex.DecodeString(strings.Join(strings.Fields(s), ""))
	if err != nil {
		panic(err)
	}
	return b
}

// lays holds that a message may be, and has such bytes ahead of what seals them; and that it is what these are read as.
func lays(t *testing.T, m api.Msg, want []byte) {
	t.Helper()
	if !msgByRule(m) || !bytes.Equal(layMsg(m), want) {
		t.Errorf("by rule: %v is %x, not %x", m, layMsg(m), want)
	}
	if e := frame.Check(m); e != api.OK {
		t.Errorf("Check(%v): %v", m, e)
	}
	if got, e := frame.Encode(m); e != api.OK || !bytes.Equal(got, seal(want)) {
		t.Errorf("Encode(%v): %x, %v, not %x", m, got, e, seal(want))
	}
	if got, e := frame.Decode(seal(want)); e != api.OK || !same(got, m) {
		t.Errorf("Decode(%x): %v, %v, not %v", seal(want), got, e, m)
	}
}

// may holds that a message may be, with the bytes that it has by rule.
func may(t *testing.T, l ...api.Msg) {
	t.Helper()
	for _, m := range l {
		lays(t, m, layMsg(m))
	}
}

// mayNot holds that messages may not be; and that what they would be laid as is read as the rule says: as another one, or none.
func mayNot(t *testing.T, l ...api.Msg) {
	t.Helper()
	for _, m := range l {
		if msgByRule(m) {
			t.Errorf("by rule %v may be", m)
		}
		if e := frame.Check(m); e != api.ErrMsg {
			t.Errorf("Check(%v): %v, not ErrMsg", m, e)
		}
		if got, e := frame.Encode(m); e != api.ErrMsg || len(got) != 0 {
			t.Errorf("Encode(%v): %x, %v, not ErrMsg", m, got, e)
		}
		isRead(t, layMsg(m))
		if got, e := frame.Decode(seal(layMsg(m))); e == api.OK && same(got, m) {
			t.Errorf("Decode(%x): %v", seal(layMsg(m)), got)
		}
	}
}

// isRead holds that bytes, when they are sealed, are read as the rule says; and tells what that is.
func isRead(t *testing.T, b []byte) api.Errno {
	t.Helper()
	return isOpened(t, seal(b))
}

// isOpened holds that sealed bytes, or such as are not, are read as the rule says; and tells what that is.
func isOpened(t *testing.T, b []byte) api.Errno {
	t.Helper()
	want, err := decodeByRule(b)
	got, e := frame.Decode(b)
	if e != err || !same(got, want) {
		t.Errorf("Decode(%x): %v, %v, not %v, %v", b, got, e, want, err)
	}
	return err
}

// noMsg holds that bytes are no message's, when they are sealed.
func noMsg(t *testing.T, l ...[]byte) {
	t.Helper()
	for _, b := range l {
		if e := isRead(t, b); e != api.ErrFrame {
			t.Errorf("by rule %x are read: %v", b, e)
		}
	}
}

// laysPlan holds that a plan may be laid, and has such bytes; and that a message may say it.
func laysPlan(t *testing.T, p api.Plan, want []byte) {
	t.Helper()
	if !planByRule(p) || !bytes.Equal(layPlan(p), want) {
		t.Errorf("by rule: %v is %x, not %x", p, layPlan(p), want)
	}
	if got, e := frame.EncodePlan(p); e != api.OK || !bytes.Equal(got, want) {
		t.Errorf("EncodePlan(%v): %x, %v, not %x", p, got, e, want)
	}
	if got, e := frame.DecodePlan(want); e != api.OK || !same(got, p) {
		t.Errorf("DecodePlan(%x): %v, %v, not %v", want, got, e, p)
	}
	if len(want) <= api.MaxFrame-9 {
		may(t, planMsg(1, p))
	} else {
		mayNot(t, planMsg(1, p))
	}
}

// mayPlan holds that plans may be laid, with the bytes that they have by rule.
func mayPlan(t *testing.T, l ...api.Plan) {
	t.Helper()
	for _, p := range l {
		laysPlan(t, p, layPlan(p))
	}
}

// mayNotPlan holds that plans may not be laid, nor said; and that what they would be laid as is read as the rule says.
func mayNotPlan(t *testing.T, l ...api.Plan) {
	t.Helper()
	for _, p := range l {
		if planByRule(p) {
			t.Errorf("by rule %v may be laid", p)
		}
		if got, e := frame.EncodePlan(p); e != api.ErrPlan || len(got) != 0 {
			t.Errorf("EncodePlan(%v): %x, %v, not ErrPlan", p, got, e)
		}
		isReadPlan(t, layPlan(p))
		mayNot(t, planMsg(1, p))
	}
}

// isReadPlan holds that bytes are read as the rule says; and tells what that is.
func isReadPlan(t *testing.T, b []byte) api.Errno {
	t.Helper()
	want, err := decodePlanByRule(b)
	got, e := frame.DecodePlan(b)
	if e != err || !same(got, want) {
		t.Errorf("DecodePlan(%x): %v, %v, not %v, %v", b, got, e, want, err)
	}
	return err
}

// noPlan holds that bytes are no plan's; and no message has them.
func noPlan(t *testing.T, l ...[]byte) {
	t.Helper()
	for _, b := range l {
		if e := isReadPlan(t, b); e != api.ErrFrame {
			t.Errorf("by rule %x are read: %v", b, e)
		}
		noMsg(t, append(layMsg(planMsg(1, api.Plan{}))[:5], b...))
	}
}
