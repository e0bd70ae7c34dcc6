package script_test

import (
	"slices"
	"strings"

	"bowsprit/api"
	"bowsprit/place"
)

// tables are those of most scripts' catalog: t, by one of its columns, u, anyhow, and v, by both of its columns.
func tables() api.Catalog {
	return cat(tab("t", "a int b text", 0), tab("u", "c int d bool"), tab("v", "a text b bool", 0, 1))
}

// placed is a layout of tables, of so many parts: rows of t lie where their keys say, those of u as they are told of each node; v has none.
func placed(t string, u ...string) api.Layout {
	l := api.Layout{Parts: make([]api.Base, len(u))}
	for k, s := range u {
		l.Parts[k].Tables = [][]api.Row{nil, list(s), nil}
	}
	for _, r := range list(t) {
		put(l, 0, r)
	}
	return l
}

// put lays a row of a table where its keys say.
func put(l api.Layout, table int, r api.Row) {
	node, e := place.Where(tables(), table, r, len(l.Parts))
	if e != api.OK {
		panic(e)
	}
	own := l.Parts[node-1].Tables
	own[table] = append(own[table], r)
}

// keyAt is a number by which rows of t lie at that one of three nodes.
func keyAt(node int) int64 {
	for n := int64(0); ; n++ {
		if at, _ := place.Where(tables(), 0, api.Row{number(n), null}, 3); at == node {
			return n
		}
	}
}

// parts are those of most scripts: three nodes, rows in each table.
func parts() api.Layout {
	l := placed("1 'x' / 2 'y' / 3 'x' / 5 '' / 9 'z' / NULL 'y'", "5 TRUE / 3 NULL", "9 FALSE", "")
	put(l, 2, api.Row{text("it's a text"), yes})
	put(l, 2, api.Row{null, null})
	return l
}

// eachKind are events of each Kind, each field that counts of which has something.
func eachKind() []api.Event {
	return []api.Event{submit("SELECT c FROM u"), cancel(1), tick(2), come(3), lose(4), drop(5, 6), twin(7), spoilt(8, 9, 10), rounds(11)}
}

// plain is a script that has something of all.
func plain() api.Script {
	return scriptOf(tables(), parts(), eachKind()...)
}

func scriptOf(c api.Catalog, l api.Layout, events ...api.Event) api.Script {
	return copyOf(api.Script{Catalog: c, Layout: l, Events: events})
}

// bare is a script without tables, at one node.
func bare(events ...api.Event) api.Script {
	return scriptOf(api.Catalog{}, api.Layout{Parts: make([]api.Base, 1)}, events...)
}

// of is a script of which one thing is another.
func of(s api.Script, change func(s *api.Script)) api.Script {
	return changing(s, change)
}

// playing is the plain script with other events.
func playing(events ...api.Event) api.Script {
	return of(plain(), func(s *api.Script) { s.Events = events })
}

// textAt is a script of one table of texts, at two nodes; its last text, or its first one, is this.
func textAt(s string) (l []api.Script) {
	c := cat(tab("t", "a int"), tab("u", "a text b text c int"))
	for k := range 2 {
		for column := range 2 {
			l = append(l, changing(scriptOf(c, api.Layout{Parts: []api.Base{partOf("1", "'x' 'y' 1 / '' 'z' NULL"), partOf("", "'p' 'q' 3 / NULL NULL NULL")}}), func(x *api.Script) {
				x.Layout.Parts[k].Tables[1][1-k][column] = text(s)
			}))
		}
	}
	return l
}

// head is how the text of most scripts begins, up to the line of nodes; behind it may stand rows.
func head() string {
	return lines("table t a int b text by a", "table u c int d bool", "table v a text b bool by a b", "nodes 3")
}

// simple is how the text of a script begins whose rows lie anyhow, of two tables at two nodes.
func simple() string {
	return lines("table t a int", "table u a text b bool", "nodes 2")
}

// many is an event so many times.
func many(count int, e api.Event) []api.Event {
	return slices.Repeat([]api.Event{e}, count)
}

// long is a text of so many bytes.
func long(bytes int) string {
	return strings.Repeat("a", bytes)
}

// sized is a script whose text has so many bytes.
func sized(bytes int) api.Script {
	const ahead, each, most = len("nodes 1\n"), len("submit \n"), 601
	var l []api.Event
	for left := bytes - ahead; left > 0; {
		line := min(left, each+most)
		if rest := left - line; 0 < rest && rest < each {
			line -= each
		}
		l = append(l, submit(long(line-each)))
		left -= line
	}
	return bare(l...)
}

// The texts of most queries: one of u alone, one of both tables, one that faults, and one that does not compile.
const (
	ofU    = "SELECT c FROM u"
	ofBoth = "SELECT b, COUNT(*) AS n FROM t JOIN u ON a = c GROUP BY b ORDER BY b"
	faults = "SELECT 1 / (c - 9) FROM u"
	unwise = "SELECT zz FROM u"
)
