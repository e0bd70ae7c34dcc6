package script_test

import (
	"math"
	"strconv"
	"strings"

	"bowsprit/api"
)

// Values, rows and catalogs are made without the program.
var (
	null = api.Value{}
	no   = api.Value{Kind: api.VBool}
	yes  = api.Value{Kind: api.VBool, N: 1}
)

// The kinds by short names.
const (
	kn = api.VNull
	kb = api.VBool
	ki = api.VInt
	kt = api.VText
	ks = api.VSum
)

func number(n int64) api.Value {
	return api.Value{Kind: ki, N: n}
}

func text(s string) api.Value {
	return api.Value{Kind: kt, S: s}
}

// under is a number as a sum under way.
func under(n int64) api.Value {
	return api.Value{Kind: ks, N: n >> 63, U: uint64(n)}
}

// written is the value that a word writes.
func written(word string) api.Value {
	switch {
	case word == "NULL":
		return null
	case word == "FALSE":
		return no
	case word == "TRUE":
		return yes
	case word[0] == '\'':
		return text(word[1 : len(word)-1])
	}
	n, e := strconv.ParseInt(word, 10, 64)
	if e != nil {
		panic(word)
	}
	return number(n)
}

// list is rows as they are written: a stroke between each two of them, blanks between values.
func list(s string) []api.Row {
	var l []api.Row
	if s == "" {
		return l
	}
	for _, line := range strings.Split(s, "/") {
		r := api.Row{}
		for _, word := range strings.Fields(line) {
			r = append(r, written(word))
		}
		l = append(l, r)
	}
	return l
}

// tab is a table whose columns are laid as a line of a catalog says them.
func tab(name, columns string, keys ...int) api.Table {
	kinds := map[string]int{"bool": kb, "int": ki, "text": kt}
	t := api.Table{Name: name, Keys: keys}
	f := strings.Fields(columns)
	for k := 0; k < len(f); k += 2 {
		t.Columns = append(t.Columns, api.Column{Name: f[k], Kind: kinds[f[k+1]]})
	}
	return t
}

func cat(tables ...api.Table) api.Catalog {
	return api.Catalog{Tables: tables}
}

// partOf is the rows of a node, table by table.
func partOf(tables ...string) (b api.Base) {
	for _, s := range tables {
		b.Tables = append(b.Tables, list(s))
	}
	return b
}

// numbers are those from one to another.
func numbers(from, to int) (l []int) {
	for n := from; n <= to; n++ {
		l = append(l, n)
	}
	return l
}

// far are numbers far from all that there may be, some of them like such in fewer bytes.
func far() []int {
	return []int{math.MinInt, math.MinInt + 1, -1 << 32, -1 << 31, math.MaxInt, 1 << 32, 1<<32 + 1, 1<<32 + 9, 1 << 40, 1 << 62}
}

// The events, by what counts of each Kind.
func submit(text string) api.Event {
	return api.Event{Kind: api.EvSubmit, Text: text}
}

func cancel(epoch int) api.Event {
	return api.Event{Kind: api.EvCancel, Epoch: epoch}
}

func tick(node int) api.Event {
	return api.Event{Kind: api.EvTick, Node: node}
}

func come(num uint64) api.Event {
	return api.Event{Kind: api.EvCome, Num: num}
}

func lose(num uint64) api.Event {
	return api.Event{Kind: api.EvLose, Num: num}
}

func drop(from, to int) api.Event {
	return api.Event{Kind: api.EvDrop, Node: from, To: to}
}

func twin(num uint64) api.Event {
	return api.Event{Kind: api.EvTwin, Num: num}
}

func spoilt(num uint64, at int, by byte) api.Event {
	return api.Event{Kind: api.EvSpoil, Num: num, At: at, By: by}
}

func rounds(count int) api.Event {
	return api.Event{Kind: api.EvRounds, At: count}
}
