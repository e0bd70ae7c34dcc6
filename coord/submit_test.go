package coord_test

import (
	"strings"
	"testing"

	"bowsprit/api"
)

// submitted is a coordinator with an entry more, and with tasks of that.
func submitted(c api.Coord, l api.Life, tasks ...api.Task) api.Coord {
	return of(c, func(c *api.Coord) {
		c.Entries = append(c.Entries, entry(l, nil, nil))
		c.Worker.Tasks = append(c.Worker.Tasks, tasks...)
		if l.State == api.LifeRuns {
			c.Worker.Has |= setOf(len(c.Entries))
		}
	})
}

// fresh are streams of a fragment from nodes, of which nothing came yet.
func fresh(epoch, frag int, nodes ...int) (l []api.In) {
	for _, node := range nodes {
		l = append(l, api.In{Frag: frag, From: node, Receiver: waits(epoch, 1)})
	}
	return l
}

// scanning is the plan of all rows of u, sorted.
func scanning() api.Plan {
	return planOf(onAll(api.WayGather, scanU(), picked(0), sortBy(-1)), root(input(0, ki), sortBy(-1)))
}

// P28.2: texts that compile: the life runs, its tasks at the coordinator's node have begun, and nobody else was told of it yet; whatever else there is stays as it is.
func TestSubmit(t *testing.T) {
	p := scanning()
	for _, c := range []api.Coord{plain(), full(), filled(1), filled(api.MaxEpochs - 1)} {
		epoch := len(c.Entries) + 1
		want := submitted(c, runs(epoch, p, "c"), taskOf(epoch, 1, api.TaskGathers, p.Frags[1], fresh(epoch, 0, 1, 2, 3)))
		after := submits(t, c, "SELECT c FROM u", want)
		hasNoReport(t, after, epoch)
		isQuiet(t, false, after)
		for e := range epoch { // the reports of others
			if r := asRule(t, "Report", given{Coord: c, Epoch: e}); !same(r, asRule(t, "Report", given{Coord: after, Epoch: e})) {
				t.Error(e, r)
			}
		}
	}
	groups := planOf(by(onAll(api.WayShuffle, scan(0, ki, kt), partial([]int{1}, agg(api.AggAll))), 0), onAll(api.WayGather, input(0, kt, ki), final(1, api.AggAll), picked(1), sortBy(2, api.Ord{})), root(input(1, ki), sortBy(2, api.Ord{})))
	c := submits(t, plain(), "select count(*) as n from t group by b order by n limit 2", submitted(plain(), runs(1, groups, "n"), taskOf(1, 2, api.TaskGathers, groups.Frags[2], fresh(1, 1, 1, 2, 3))))
	c = submits(t, c, "SELECT c FROM u", submitted(c, runs(2, p, "c"), taskOf(2, 1, api.TaskGathers, p.Frags[1], fresh(2, 0, 1, 2, 3))))
	submits(t, c, "select zz from u", submitted(c, over(3, failed(api.ErrName, api.AtItem))))
}

// P28.2: texts with a static error, and such as are too long: they are over at once, the worker knows nothing of them, and nobody is told.
func TestSubmitOfWrongTexts(t *testing.T) {
	for text, want := range map[string]api.Report{
		"SELECT zz FROM u":                    failed(api.ErrName, api.AtItem),
		"SELECT c FROM v":                     failed(api.ErrTables, api.AtFrom),
		"SELECT c FROM u WHERE c":             failed(api.ErrTruth, api.AtWhere),
		"SELECT c FROM u ORDER BY 2":          failed(api.ErrName, api.AtKeys),
		"":                                    failed(api.ErrParse, 0),
		"SELECT":                              failed(api.ErrParse, 6),
		"SELECT c FROM u ?":                   failed(api.ErrLex, 16),
		"SELECT c, c, c, c, c, c, c FROM u":   failed(api.ErrMany, 23),
		long(api.MaxSource + 1):               failed(api.ErrLong, 0),
		strings.Repeat("a", api.MaxSource+50): failed(api.ErrLong, 0),
	} {
		for _, c := range []api.Coord{plain(), full(), filled(api.MaxEpochs - 1)} {
			epoch := len(c.Entries) + 1
			after := submits(t, c, text, submitted(c, over(epoch, want)))
			reports(t, after, epoch, want)
			was, is := asRule(t, "Tick", given{Coord: c}), asRule(t, "Tick", given{Coord: after})
			if !same(was.Msgs, is.Msgs) {
				t.Errorf("%q: %v is said, not %v", text, is.Msgs, was.Msgs)
			}
			if quiet := asRule(t, "Quiet", given{Coord: c}).Is; quiet != asRule(t, "Quiet", given{Coord: after}).Is {
				t.Errorf("%q: it is not %v any more that it is quiet", text, quiet)
			}
		}
	}
	if got := asRule(t, "Submit", given{Coord: plain(), Text: long(api.MaxSource)}); got.Coord.Entries[0].Life.State != api.LifeRuns {
		t.Error(got)
	}
}

// P28.2: ErrFull: of MaxEpochs entries, whatever the text; not of one less.
func TestSubmitOfFull(t *testing.T) {
	mute := func(count int) api.Coord {
		c := plain()
		for k := range count {
			c.Entries = append(c.Entries, entry(over(k+1, failed(api.ErrName, 0)), nil, nil))
		}
		return c
	}
	for _, text := range []string{"SELECT c FROM u", "SELECT zz FROM u", "", long(api.MaxSource + 1)} {
		for _, c := range []api.Coord{filled(api.MaxEpochs), mute(api.MaxEpochs)} {
			refuses(t, "Submit", given{Coord: c, Text: text}, api.ErrFull)
		}
		c := plain()
		for epoch := 1; epoch <= api.MaxEpochs; epoch++ {
			got := asRule(t, "Submit", given{Coord: c, Text: text})
			if got.Err != api.OK || got.Epoch != epoch || len(got.Coord.Entries) != epoch {
				t.Fatal(got)
			}
			c = got.Coord
		}
		refuses(t, "Submit", given{Coord: c, Text: text}, api.ErrFull)
	}
}

// P28.2: a catalog of no tables, and one of another number of nodes: the text is of the worker's Catalog, the plan is told with its Sites.
func TestSubmitAnywhere(t *testing.T) {
	for nodes := 1; nodes <= api.MaxSites; nodes++ {
		c := api.Coord{Worker: api.Worker{Sites: nodes}}
		c = submits(t, c, "SELECT c FROM u", submitted(c, over(1, failed(api.ErrTables, api.AtFrom))))
		c.Worker.Catalog = cat(tab("u", "c bool"))
		p := planOf(onAll(api.WayGather, scan(0, kb), picked(0), sortBy(-1)), root(input(0, kb), sortBy(-1)))
		x := taskOf(2, 1, api.TaskGathers, p.Frags[1], fresh(2, 0, numbers(1, nodes)...))
		x.Sites = nodes
		submits(t, c, "SELECT c FROM u", submitted(c, runs(2, p, "c"), x))
	}
}
