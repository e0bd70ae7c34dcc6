package world_test

import (
	"strconv"
	"strings"

	"bowsprit/api"
)

// Values, rows, expressions and catalogs are made without the program.
var (
	null = api.Value{}
	no   = api.Value{Kind: api.VBool}
	yes  = api.Value{Kind: api.VBool, N: 1}
)

// The kinds by short names.
const (
	kn = api.VNull
	kb = api.VBool
	ki = api.VInt
	kt = api.VText
	ks = api.VSum
)

func number(n int64) api.Value {
	return api.Value{Kind: ki, N: n}
}

func text(s string) api.Value {
	return api.Value{Kind: kt, S: s}
}

// under is a number as a sum under way.
func under(n int64) api.Value {
	return api.Value{Kind: ks, N: n >> 63, U: uint64(n)}
}

// written is the value that a word writes; of a sum under way there is an S ahead of its number.
func written(word string) api.Value {
	sum := word[0] == 'S'
	switch {
	case word == "NULL":
		return null
	case word == "FALSE":
		return no
	case word == "TRUE":
		return yes
	case word[0] == '\'':
		return text(word[1 : len(word)-1])
	case sum:
		word = word[1:]
	}
	n, e := strconv.ParseInt(word, 10, 64)
	if e != nil {
		panic(word)
	}
	if sum {
		return under(n)
	}
	return number(n)
}

// list is rows as they are written: a stroke between each two of them, blanks between values.
func list(s string) []api.Row {
	var l []api.Row
	if s == "" {
		return l
	}
	for _, line := range strings.Split(s, "/") {
		r := api.Row{}
		for _, word := range strings.Fields(line) {
			r = append(r, written(word))
		}
		l = append(l, r)
	}
	return l
}

func exprOf(l ...api.ENode) api.Expr {
	return api.Expr{Nodes: l}
}

func lit(v api.Value) api.Expr {
	return exprOf(api.ENode{Tag: api.NLit, L: -1, R: -1, Value: v})
}

func num(n int64) api.Expr {
	return lit(number(n))
}

func col(n int) api.Expr {
	return exprOf(api.ENode{Tag: api.ECol, L: -1, R: -1, Col: n})
}

// on is the expression of a tag over one part, or two.
func on(tag int, parts ...api.Expr) api.Expr {
	root := api.ENode{Tag: tag, L: -1, R: -1}
	var l []api.ENode
	for k, p := range parts {
		by := len(l)
		for _, n := range p.Nodes {
			if n.L >= 0 {
				n.L += by
			}
			if n.R >= 0 {
				n.R += by
			}
			l = append(l, n)
		}
		if k == 0 {
			root.L = len(l) - 1
		} else {
			root.R = len(l) - 1
		}
	}
	return exprOf(append(l, root)...)
}

func agg(tag int, arg ...api.Expr) api.Agg {
	a := api.Agg{Tag: tag}
	for _, x := range arg {
		a.Arg = x
	}
	return a
}

// tab is a table whose columns are laid as a line of a catalog says them.
func tab(name, columns string, keys ...int) api.Table {
	kinds := map[string]int{"bool": kb, "int": ki, "text": kt}
	t := api.Table{Name: name, Keys: keys}
	f := strings.Fields(columns)
	for k := 0; k < len(f); k += 2 {
		t.Columns = append(t.Columns, api.Column{Name: f[k], Kind: kinds[f[k+1]]})
	}
	return t
}

func cat(tables ...api.Table) api.Catalog {
	return api.Catalog{Tables: tables}
}
