package script_test

import (
	"math"
	"math/rand"
	"strconv"
	"strings"

	"bowsprit/api"
)

// maker makes catalogs, databases, and texts over them by chance.
type maker struct {
	*rand.Rand
	catalog api.Catalog
	columns [][2]string // of a select: how each one is named, and its kind's letter
	groups  bool        // whether the next part stands in a group, where it has no columns
}

func newMaker(seed int64) *maker {
	return &maker{Rand: rand.New(rand.NewSource(seed))}
}

func (m *maker) oneIn(n int) bool {
	return m.Intn(n) == 0
}

func (m *maker) one(l ...string) string {
	return l[m.Intn(len(l))]
}

// letters stand for the kinds, each at its place.
const letters = "nbit"

// tables are a catalog with and without Keys.
func (m *maker) tables() api.Catalog {
	var c api.Catalog
	for k := range 1 + m.Intn(api.MaxTables) {
		t := tab("t"+strconv.Itoa(k), "")
		for at := range 1 + m.Intn(api.MaxColumns) {
			t.Columns = append(t.Columns, api.Column{Name: string(rune('a' + at)), Kind: []int{kb, ki, ki, kt}[m.Intn(4)]})
			if m.oneIn(3) {
				t.Keys = append(t.Keys, at)
			}
		}
		c.Tables = append(c.Tables, t)
	}
	return c
}

// value is one of a kind, or null.
func (m *maker) value(kind int) api.Value {
	switch {
	case m.oneIn(6):
		return null
	case kind == kb:
		return []api.Value{no, yes}[m.Intn(2)]
	case kind == kt:
		return text(m.one("", "a", "b", "it's", " ' ", "a b"))
	case m.oneIn(30):
		return number([]int64{math.MinInt64, math.MaxInt64, -10, 100}[m.Intn(4)])
	}
	return number(int64(m.Intn(6) - 1))
}

// base is a database of few rows.
func (m *maker) base(c api.Catalog) api.Base {
	b := api.Base{Tables: make([][]api.Row, len(c.Tables))}
	for table, t := range c.Tables {
		for range m.Intn(6) {
			var r api.Row
			for _, c := range t.Columns {
				r = append(r, m.value(c.Kind))
			}
			b.Tables[table] = append(b.Tables[table], r)
		}
	}
	return b
}

// leaf is a column of a kind, or a literal; where groups are an aggregate. One in so many is wrong.
func (m *maker) leaf(kind string) string {
	if m.oneIn(60) {
		return m.one("zz", "a", "SUM(1)", "'x'", "p.zz", "?", "a b")
	}
	if m.groups && m.oneIn(2) {
		m.groups = false
		defer func() { m.groups = true }()
		if kind == "i" && m.oneIn(2) {
			return m.one("COUNT(*)", "COUNT("+m.tree(m.one("n", "b", "i", "t"), 1)+")", "SUM("+m.tree("i", 1)+")")
		}
		return m.one("MIN", "MAX") + "(" + m.tree(kind, 1) + ")"
	}
	var l []string
	for _, c := range m.columns {
		if c[1] == kind && !m.groups {
			l = append(l, c[0])
		}
	}
	if len(l) > 0 && !m.oneIn(4) {
		return m.one(l...)
	}
	switch kind {
	case "b":
		return m.one("TRUE", "FALSE", "NULL", "TRUE")
	case "i":
		return strconv.Itoa(m.Intn(4))
	case "t":
		return m.one("'a'", "''", "'it''s'")
	}
	return "NULL"
}

// tree is an expression of a kind.
func (m *maker) tree(kind string, depth int) string {
	if depth == 0 || m.oneIn(3) {
		return m.leaf(kind)
	}
	part := func(kind string) string { return "(" + m.tree(kind, depth-1) + ")" }
	other := m.one("b", "i", "i", "t")
	switch kind {
	case "i":
		return part(kind) + m.one("+", "-", "*", "/") + part(kind)
	case "b":
		return m.one(part(other)+m.one("=", "=", "<", "<>", ">=")+part(other), part(kind)+m.one(" AND ", " OR ")+part(kind), "NOT "+part(kind), part(other)+" IS NOT NULL")
	}
	return m.leaf(kind)
}

// source is a table, called so; its columns are there from then on.
func (m *maker) source(called string) string {
	t := m.catalog.Tables[m.Intn(len(m.catalog.Tables))]
	for _, c := range t.Columns {
		m.columns = append(m.columns, [2]string{called + "." + c.Name, letters[c.Kind : c.Kind+1]})
	}
	return t.Name + " " + called
}

// selected is a select of items of kinds.
func (m *maker) selected(kinds []string) string {
	m.columns, m.groups = nil, false
	s := " FROM " + m.source("p")
	for k := range m.Intn(api.MaxJoins + 1) {
		s += m.one(" LEFT", "") + " JOIN " + m.source([]string{"q", "r"}[k]) + " ON " + m.tree("b", 2)
	}
	if m.oneIn(2) {
		s += " WHERE " + m.one("", "TRUE AND ") + m.tree("b", 2)
	}
	if m.groups = m.oneIn(2); m.groups && m.oneIn(2) {
		s += " GROUP BY " + m.columns[m.Intn(len(m.columns))][0]
	}
	if m.groups && m.oneIn(2) {
		s += " HAVING " + m.tree("b", 2)
	}
	var items []string
	for _, kind := range kinds {
		items = append(items, m.tree(kind, 2)+m.one("", "", " AS n", " AS k"))
	}
	return m.one("SELECT ", "SELECT DISTINCT ") + strings.Join(items, ", ") + s
}

// text is one over a catalog; now and then it does not compile.
func (m *maker) text(c api.Catalog) string {
	m.catalog = c
	kinds := make([]string, 1+m.Intn(3))
	for k := range kinds {
		at := m.Intn(4)
		kinds[k] = letters[at : at+1]
	}
	var selects []string
	for range 1 + m.Intn(m.Intn(api.MaxSelects)+1) {
		selects = append(selects, m.selected(kinds))
		if m.oneIn(40) {
			kinds = append(kinds, "i")
		}
	}
	s := strings.Join(selects, " UNION ALL ")
	if m.oneIn(2) {
		s += " ORDER BY " + strconv.Itoa(1+m.Intn(len(kinds))) + m.one("", " DESC", ", 1")
	}
	if m.oneIn(3) {
		s += " LIMIT " + strconv.Itoa(m.Intn(5))
	}
	return s
}

// num is the Num of a parcel that is on its way, the first one often; now and then of none.
func (m *maker) num(w api.World) uint64 {
	n := len(w.Net.Parcels)
	switch {
	case n == 0 || m.oneIn(20):
		return w.Net.Sent + 1 - min(w.Net.Sent, uint64(m.Intn(20)))
	case m.oneIn(2):
		return w.Net.Parcels[0].Num
	}
	return w.Net.Parcels[m.Intn(n)].Num
}

// at is the place of a byte of the parcel of a Num, or now and then of none.
func (m *maker) at(w api.World, num uint64) int {
	for _, p := range w.Net.Parcels {
		if p.Num == num && len(p.Bytes) > 0 && !m.oneIn(20) {
			return m.Intn(len(p.Bytes))
		}
	}
	return m.Intn(100)
}

// event is one of each Kind that may stand in a script, such as is refused, too.
func (m *maker) event(w api.World) api.Event {
	nodes, num := len(w.Workers), m.num(w)
	switch kind := m.Intn(40); {
	case kind == 0:
		return m.submitted(w.Coord.Worker.Catalog)
	case kind == 1:
		return cancel(m.Intn(len(w.Coord.Entries) + 2))
	case kind < 11:
		return tick(m.Intn(nodes + 1 + m.Intn(2)))
	case kind < 30:
		return come(num)
	case kind < 32:
		return lose(num)
	case kind < 33:
		return drop(m.Intn(nodes+1), m.Intn(nodes+2))
	case kind < 35:
		return twin(num)
	case kind < 38:
		return spoilt(num, m.at(w, num), byte(m.Intn(256)))
	}
	return rounds(m.Intn(3))
}

// submitted is a text that is submitted, as long as it may be.
func (m *maker) submitted(c api.Catalog) api.Event {
	for {
		if s := m.text(c); len(s) <= api.MaxSource+1 {
			return submit(s)
		}
	}
}
