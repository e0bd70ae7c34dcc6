package frame_test

import (
	"slices"
	"testing"

	"bowsprit/api"
	"bowsprit/frame"
)

// P23.1: a Kind from 1 to 7, with nothing beside it, or with all that counts of another one.
func TestKinds(t *testing.T) {
	for _, m := range eachKind() {
		may(t, m)
		for kind := -1; kind <= 8; kind++ {
			other := m
			if other.Kind = kind; kind != m.Kind && !(isBare(kind) && isBare(m.Kind)) {
				mayNot(t, other)
			}
		}
		for _, kind := range outside(1, 7) {
			other := m
			other.Kind = kind
			mayNot(t, other)
		}
	}
	mayNot(t, api.Msg{}, bare(0), bare(8), bare(-1), bare(api.MsgPlan), bare(api.MsgData), bare(api.MsgAck), bare(api.MsgFail))
	may(t, bare(api.MsgHave), bare(api.MsgDrop), bare(api.MsgGone))
}

// isBare tells of Kinds that have nothing besides what all have.
func isBare(kind int) bool {
	return kind == api.MsgHave || kind == api.MsgDrop || kind == api.MsgGone
}

// P23.1: From and To are nodes, whichever Kind it is; a message may go to where it comes from.
func TestFromAndTo(t *testing.T) {
	for _, m := range eachKind() {
		for from := range api.MaxSites + 1 {
			for to := range api.MaxSites + 1 {
				m.From, m.To = from, to
				may(t, m)
			}
		}
		for _, n := range outside(0, api.MaxSites) {
			m.From, m.To = n, 1
			mayNot(t, m)
			m.From, m.To = 1, n
			mayNot(t, m)
			m.From = n
			mayNot(t, m)
		}
	}
}

// P23.1: the Epoch of each Kind.
func TestEpoch(t *testing.T) {
	for _, m := range eachKind() {
		for epoch := 1; epoch <= api.MaxEpochs; epoch++ {
			m.Epoch = epoch
			may(t, m)
		}
		for _, epoch := range outside(1, api.MaxEpochs) {
			m.Epoch = epoch
			mayNot(t, m)
		}
	}
}

// extra is something that a field has that is not to count: by the field's name.
type extra struct {
	field string
	fill  func(m *api.Msg)
}

func extras() []extra {
	l := []extra{
		{"Frag", func(m *api.Msg) { m.Frag = 1 }},
		{"Frag", func(m *api.Msg) { m.Frag = -1 }},
		{"Frag", func(m *api.Msg) { m.Frag = 256 }},
		{"Sites", func(m *api.Msg) { m.Sites = 1 }},
		{"Sites", func(m *api.Msg) { m.Sites = -1 }},
		{"Plan", func(m *api.Msg) { m.Plan = small() }},
		{"Plan", func(m *api.Msg) { m.Plan = planOf(api.Frag{}) }},
		{"Err", func(m *api.Msg) { m.Err = api.ErrFault }},
		{"Err", func(m *api.Msg) { m.Err = api.ErrNil }},
		{"Err", func(m *api.Msg) { m.Err = -1 }},
	}
	packets := []api.Packet{
		data(1, 1, "1"), end(1, 1), ack(1, 1, 1), {Kind: api.PkData}, {Kind: api.PkAck}, {Kind: -1}, {Session: 1}, {Seq: 1}, {Limit: 1},
		{Batch: api.Batch{End: true}}, {Batch: api.Batch{Count: 1}}, {Batch: api.Batch{Rows: list("1")}}, {Batch: api.Batch{Rows: list(".")}},
	}
	for _, p := range packets {
		l = append(l, extra{"Packet", func(m *api.Msg) { m.Packet = p }})
	}
	return l
}

// counts are the fields that count of each Kind.
var counts = map[int][]string{
	api.MsgPlan: {"Sites", "Plan"}, api.MsgData: {"Frag", "Packet"}, api.MsgAck: {"Frag", "Packet"}, api.MsgFail: {"Err"},
}

// P23.1: what does not count is zero, of each Kind, each field alone, and all of them.
func TestWhatDoesNotCount(t *testing.T) {
	count := 0
	for _, m := range eachKind() {
		all := m
		for _, x := range extras() {
			if slices.Contains(counts[m.Kind], x.field) {
				continue
			}
			other := m
			x.fill(&other)
			mayNot(t, other)
			x.fill(&all)
			mayNot(t, all)
			count++
		}
	}
	if count < 9*len(extras())-2*2-2*16-2*16-2*3 {
		t.Error(count)
	}
}

// P23.1, R3: empty lists are none: a message whose fields that do not count have such ones may be, and has the same bytes.
func TestEmptyListsAreNone(t *testing.T) {
	for _, m := range eachKind() {
		other := m
		if len(m.Plan.Frags) == 0 {
			other.Plan.Frags = []api.Frag{}
		}
		if len(m.Packet.Batch.Rows) == 0 {
			other.Packet.Batch.Rows = make([]api.Row, 0, 3)
		}
		may(t, other)
		if !frame.Same(m, other) || !frame.Same(other, m) {
			t.Errorf("%v and %v are not the same", m, other)
		}
	}
	p := planOf(api.Frag{At: api.AtAll, Way: api.WayCast, Cols: []int{}, Nodes: steps(scan(0, ki), api.LNode{
		Op: api.LDistinct, Kinds: []int{}, Cond: api.Expr{Nodes: []api.ENode{}}, Keys: []int{}, Aggs: []api.Agg{}, Items: []api.Expr{}, Order: []api.Ord{},
	})})
	mayPlan(t, p)
}

// P23.1: Sites of a MsgPlan.
func TestSites(t *testing.T) {
	for sites := 1; sites <= api.MaxSites; sites++ {
		may(t, planMsg(sites, small()))
	}
	for _, sites := range outside(1, api.MaxSites) {
		mayNot(t, planMsg(sites, small()))
	}
}

// P23.1: Frag of a MsgData, an End's too, and of a MsgAck.
func TestFrag(t *testing.T) {
	for frag := range api.MaxFrags {
		may(t, dataMsg(frag, data(7, 1, "5")), dataMsg(frag, end(7, 3)), ackMsg(frag, ack(7, 3, 9)))
	}
	for _, frag := range outside(0, api.MaxFrags-1) {
		mayNot(t, dataMsg(frag, data(7, 1, "5")), dataMsg(frag, end(7, 3)), ackMsg(frag, ack(7, 3, 9)))
	}
}

// P23.1: Err of a MsgFail.
func TestErr(t *testing.T) {
	may(t, failMsg(api.ErrFault), failMsg(api.ErrOver))
	for e := api.Errno(-1); e < 420; e++ {
		if e != api.ErrFault && e != api.ErrOver {
			mayNot(t, failMsg(e))
		}
	}
	for _, n := range outside(int(api.ErrFault), int(api.ErrFault)) {
		mayNot(t, failMsg(api.Errno(n)))
	}
}
