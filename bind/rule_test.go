package bind_test

import (
	"slices"
	"strconv"
	"strings"

	"bowsprit/api"
)

// fault is the error that a reckoning ends with.
type fault struct{ err api.Errno }

func must(ok bool, e api.Errno) {
	if !ok {
		panic(fault{e})
	}
}

// typed is an expression as these tests write it, and its kind.
type typed struct {
	text string
	kind int
}

// ruled is a column of a source.
type ruled struct {
	source, name string
	kind         int
}

// rule reckons what a query comes to, apart from the program: over texts, node by node, without a tree's parts being asked for.
type rule struct {
	c       api.Catalog
	at      int
	columns []ruled
	keys    []int
	aggs    []typed
}

// named is the place of the column that a name names.
func (r *rule) named(n api.Name) int {
	var l []int
	for place, c := range r.columns {
		if c.name == n.Name && (n.Table == "" || n.Table == c.source) {
			l = append(l, place)
		}
	}
	must(len(l) > 0, api.ErrName)
	must(len(l) == 1, api.ErrTwice)
	return l[0]
}

func (r *rule) source(s api.Source) string {
	place := slices.IndexFunc(r.c.Tables, func(t api.Table) bool { return t.Name == s.Table })
	must(place >= 0, api.ErrTables)
	called := s.As
	if called == "" {
		called = s.Table
	}
	must(!slices.ContainsFunc(r.columns, func(c ruled) bool { return c.source == called }), api.ErrAlias)
	for _, c := range r.c.Tables[place].Columns {
		r.columns = append(r.columns, ruled{called, c.Name, c.Kind})
	}
	return strconv.Itoa(place)
}

var aggregates = map[int]string{api.NCountAll: "ALL", api.NCount: "COUNT", api.NSum: "SUM", api.NMin: "MIN", api.NMax: "MAX"}

// within tells of each node whether it stands below an aggregate.
func within(l []api.Node) []bool {
	below := make([]bool, len(l))
	for place := len(l) - 1; place >= 0; place-- {
		for _, part := range []int{l[place].L, l[place].R} {
			if part >= 0 {
				below[part] = below[place] || aggregates[l[place].Tag] != ""
			}
		}
	}
	return below
}

func (r *rule) column(n int, ofGroup bool) typed {
	if !ofGroup {
		return typed{"#" + strconv.Itoa(n), r.columns[n].kind}
	}
	key := slices.Index(r.keys, n)
	must(key >= 0, api.ErrGroup)
	return typed{"#" + strconv.Itoa(key), r.columns[n].kind}
}

func (r *rule) aggregate(tag int, parts []typed, may bool) typed {
	must(may, api.ErrAgg)
	a := typed{"ALL", api.VInt}
	for _, p := range parts {
		must(tag != api.NSum || p.kind == api.VInt || p.kind == api.VNull, api.ErrKind)
		a.text = aggregates[tag] + "(" + p.text + ")"
		if tag == api.NMin || tag == api.NMax {
			a.kind = p.kind
		}
	}
	place := slices.Index(r.aggs, a)
	if place < 0 {
		place = len(r.aggs)
		r.aggs = append(r.aggs, a)
		must(len(r.aggs) <= 12, api.ErrWide)
	}
	return typed{"#" + strconv.Itoa(len(r.keys)+place), a.kind}
}

// other is a node that is neither a leaf nor an aggregate.
func other(tag int, parts []typed) typed {
	x := typed{"(" + signs[tag] + " " + parts[0].text + ")", api.VBool}
	if len(parts) == 2 {
		x.text = "(" + parts[0].text + " " + signs[tag] + " " + parts[1].text + ")"
	}
	all := func(kind int) {
		for _, p := range parts {
			must(p.kind == kind || p.kind == api.VNull, api.ErrKind)
		}
	}
	switch tag {
	case api.NNeg, api.NAdd, api.NSub, api.NMul, api.NDiv:
		all(api.VInt)
		x.kind = api.VInt
	case api.NNot, api.NAnd, api.NOr:
		all(api.VBool)
	case api.NEq, api.NNe, api.NLt, api.NLe, api.NGt, api.NGe:
		must(parts[0].kind == parts[1].kind || parts[0].kind*parts[1].kind == 0, api.ErrKind)
	}
	return x
}

// tree reckons over the group's columns, or, where no aggregates may be, over the sources'.
func (r *rule) tree(t api.Tree, grouped bool) typed {
	below := within(t.Nodes)
	l := make([]typed, len(t.Nodes))
	for place, n := range t.Nodes {
		var parts []typed
		for _, part := range []int{n.L, n.R} {
			if part >= 0 {
				parts = append(parts, l[part])
			}
		}
		switch {
		case n.Tag == api.NLit:
			l[place] = typed{literal(n.Value), n.Value.Kind}
		case n.Tag == api.NName:
			l[place] = r.column(r.named(api.Name{Table: n.Table, Name: n.Name}), grouped && !below[place])
		case aggregates[n.Tag] != "":
			l[place] = r.aggregate(n.Tag, parts, grouped && !below[place])
		default:
			l[place] = other(n.Tag, parts)
		}
	}
	return l[len(l)-1]
}

func (r *rule) truth(t api.Tree, grouped bool) string {
	x := r.tree(t, grouped)
	must(x.kind <= api.VBool, api.ErrTruth)
	return x.text
}

// groups tells whether a select groups.
func groups(s api.Select) bool {
	for _, i := range s.Items {
		for _, n := range i.Tree.Nodes {
			if aggregates[n.Tag] != "" {
				return true
			}
		}
	}
	return len(s.Group)+len(s.Having.Nodes) > 0
}

// items are what is selected, and what each is called.
func (r *rule) items(s api.Select) (items []typed, called []string) {
	must(!s.Star || !groups(s), api.ErrStar)
	for place, c := range r.columns {
		if s.Star {
			items, called = append(items, r.column(place, false)), append(called, c.name)
		}
	}
	for _, i := range s.Items {
		items, called = append(items, r.tree(i.Tree, groups(s))), append(called, i.As)
		if root := i.Tree.Nodes[0]; i.As == "" && len(i.Tree.Nodes) == 1 && root.Tag == api.NName {
			called[len(called)-1] = root.Name
		}
	}
	return items, called
}

// selected is what a select comes to, its items, and what they are called; at a place that goes on from step to step.
func (r *rule) selected(s api.Select) (string, []typed, []string) {
	text := r.source(s.From)
	r.at++
	for _, j := range s.Joins {
		text += map[bool]string{true: " left ", false: " join "}[j.Left] + r.source(j.Source) + " on "
		text += r.truth(j.On, false)
	}
	r.at++
	if len(s.Where.Nodes) > 0 {
		text += " where " + r.truth(s.Where, false)
	}
	r.at++
	for _, n := range s.Group {
		r.keys = append(r.keys, r.named(n))
	}
	r.at++
	items, called := r.items(s)
	r.at++
	having := ""
	if len(s.Having.Nodes) > 0 {
		having = " having " + r.truth(s.Having, true)
	}
	r.at++
	if groups(s) {
		text += " group"
		for _, k := range r.keys {
			text += " #" + strconv.Itoa(k)
		}
		for _, a := range r.aggs {
			text += " " + a.text
		}
	}
	text += having + " get " + strings.Join(mapped(items, func(x typed) string { return x.text }), ", ")
	if s.Distinct {
		text += " distinct"
	}
	return text, items, called
}

// key is the place of the column of a key.
func key(k api.Key, called []string) string {
	place := k.Number - 1
	if k.Name != "" {
		place = slices.Index(called, k.Name)
		must(place < 0 || !slices.Contains(called[place+1:], k.Name), api.ErrTwice)
	}
	must(place >= 0 && place < len(called), api.ErrName)
	return map[bool]string{true: " -", false: " +"}[k.Desc] + strconv.Itoa(place)
}

// byRule is what a query comes to, as these tests tell it; or the place of its first error, and that.
func byRule(c api.Catalog, q api.Query) (text string, at int, err api.Errno) {
	defer func() {
		if f, ok := recover().(fault); ok {
			text, err = "", f.err
		}
	}()
	var first []string
	var kinds []int
	for number, s := range q.Selects {
		r := rule{c: c, at: 10 * number}
		one, items, called := func() (string, []typed, []string) {
			defer func() { at = r.at }()
			return r.selected(s)
		}()
		if number == 0 {
			text, first, kinds = one, called, make([]int, len(items))
		} else {
			text += " | " + one
		}
		must(len(items) == len(first), api.ErrUnion)
		for place, x := range items {
			must(x.kind == kinds[place] || x.kind == 0 || kinds[place] == 0, api.ErrUnion)
			kinds[place] = max(kinds[place], x.kind)
		}
	}
	var heads []string
	for place, name := range first {
		heads = append(heads, map[bool]string{true: "-", false: name}[name == ""]+" "+kindWords[kinds[place]])
	}
	text += " => " + strings.Join(heads, ", ")
	at = 90
	for place, k := range q.Keys {
		text += map[bool]string{true: " by", false: ""}[place == 0] + key(k, first)
	}
	if q.Limit != -1 {
		text += " limit " + strconv.Itoa(q.Limit)
	}
	return text, 0, api.OK
}
