package frame_test

import (
	"testing"

	"bowsprit/api"
	"bowsprit/catalog"
	"bowsprit/frame"
	"bowsprit/lower"
	"bowsprit/plan"
	"bowsprit/prop"
	"bowsprit/rewrite"
)

// queries come to plans of each Op, as layer 19 makes them.
var queries = []string{
	"select a from t",
	"select * from t where a > 1 and not b is null or d = 'it''s'",
	"select a, count(*), count(b), sum(a), min(d), max(-a) from t group by a",
	"select d, sum(a * 2 - 1) from t group by d having count(*) > 1 order by d desc limit 3",
	"select sum(c), count(*) from u",
	"select distinct b from t",
	"select t.a, u.c from t join u on t.a = u.c",
	"select t.a, u.c from t join u on t.a = u.c left join v on v.e = t.d where u.c < 5",
	"select t.a from t left join u on t.a / u.c = 1",
	"select a from t union all select c from u",
	"select a, d from t union all select c, null from u union all select f, e from v order by a, d desc limit 0",
	"select count(*) from t join u on true group by d, c, b order by 1 limit 2147483647",
	"select null, true, 5, 'x', a + b - a * b / 2 from t where a <> 1 and a <= 2 and a >= 3 and (a < 4 or a is not null)",
	"select max(d), d, a from t left join v on t.d = v.e group by d, a",
}

// planned are the plans of the queries, as they are and made better.
func planned(t *testing.T) (l []api.Plan) {
	t.Helper()
	c, _, e := catalog.Parse("table t a int b int d text by a\ntable u c int\ntable v e text f int by e f\n")
	if e != api.OK {
		t.Fatal(e)
	}
	for _, q := range queries {
		x, at, e := lower.Query(c, q)
		if e != api.OK {
			t.Fatal(q, at, e)
		}
		better, e := rewrite.Rewrite(x.Logic)
		if e != api.OK {
			t.Fatal(q, e)
		}
		for _, tree := range []api.Logic{x.Logic, better} {
			p, e := plan.Plan(tree, c)
			if _, _, f := prop.Sound(p, c); e != api.OK || f != api.OK {
				t.Fatal(q, e, f)
			}
			l = append(l, p)
		}
	}
	return l
}

// P23.1 to P23.4: plans as layer 19 makes them, said to each of all nodes, for each number of them.
func TestPlansAsTheyAreMade(t *testing.T) {
	ops, ways := map[int]int{}, map[int]int{}
	for _, p := range planned(t) {
		mayPlan(t, p)
		for sites := 1; sites <= api.MaxSites; sites++ {
			for to := 1; to <= sites; to++ {
				m := api.Msg{Kind: api.MsgPlan, To: to, Epoch: 1 + (sites+to)%api.MaxEpochs, Sites: sites, Plan: p}
				may(t, m)
				if b, e := frame.Encode(m); e != api.OK || len(b) > 2000 {
					t.Errorf("%v: %v bytes, %v", p, len(b), e)
				}
			}
		}
		used, _ := opsOf(p)
		for _, op := range used {
			ops[op]++
		}
		for _, f := range p.Frags {
			ways[f.Way]++
		}
	}
	if len(ops) != 11 || len(ways) != 4 {
		t.Error(ops, ways)
	}
}

// P23.4: of two plans of layer 19 that are unlike the bytes are, too.
func TestPlansApart(t *testing.T) {
	l := planned(t)
	for _, p := range l {
		for _, q := range l {
			a, e := frame.EncodePlan(p)
			b, f := frame.EncodePlan(q)
			if e != api.OK || f != api.OK || (string(a) == string(b)) != same(p, q) {
				t.Errorf("%v and %v: %x, %x", p, q, a, b)
			}
		}
	}
}
