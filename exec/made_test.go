package exec_test

import (
	"math"
	"math/big"
	"slices"
	"strconv"
	"strings"

	"bowsprit/api"
)

// Values, rows, expressions, nodes and fragments are made without the program.
var (
	null = api.Value{}
	no   = api.Value{Kind: api.VBool}
	yes  = api.Value{Kind: api.VBool, N: 1}
)

// The kinds by short names.
const (
	kn = api.VNull
	kb = api.VBool
	ki = api.VInt
	kt = api.VText
	ks = api.VSum
)

// The ends of 64 bits.
const (
	most  = math.MaxInt64
	least = math.MinInt64
)

func number(n int64) api.Value {
	return api.Value{Kind: ki, N: n}
}

func text(s string) api.Value {
	return api.Value{Kind: kt, S: s}
}

// power is 2 to the n, and as many more.
func power(n uint, more int64) *big.Int {
	x := new(big.Int).Lsh(big.NewInt(1), n)
	return x.Add(x, big.NewInt(more))
}

func minus(x *big.Int) *big.Int {
	return new(big.Int).Neg(x)
}

// under is a number as a sum under way, which it has to fit.
func under(x *big.Int) api.Value {
	low := new(big.Int).And(x, power(64, -1))
	high := new(big.Int).Rsh(x, 64)
	return api.Value{Kind: ks, N: high.Int64(), U: low.Uint64()}
}

func sum(n int64) api.Value {
	return under(big.NewInt(n))
}

// numberOf is the number of a sum under way.
func numberOf(v api.Value) *big.Int {
	x := new(big.Int).Lsh(big.NewInt(v.N), 64)
	return x.Add(x, new(big.Int).SetUint64(v.U))
}

// valueOf is a value of each kind, the kinds' numbers being its places.
var valueOf = []api.Value{null, yes, number(5), text("a"), {Kind: ks, N: 1, U: 2}}

// noValues are values that may not be.
func noValues() []api.Value {
	return []api.Value{
		{N: 1}, {U: 1}, {S: "a"}, {Kind: -1}, {Kind: ks + 1}, {Kind: math.MaxInt}, {Kind: math.MinInt}, {Kind: 1<<32 + ki},
		{Kind: kb, N: 2}, {Kind: kb, N: -1}, {Kind: kb, U: 1}, {Kind: kb, S: "a"},
		{Kind: ki, U: 1}, {Kind: ki, S: "1"},
		{Kind: kt, N: 1}, {Kind: kt, U: 1}, text(strings.Repeat("x", api.MaxText+1)),
		{Kind: ks, S: "a"},
	}
}

// written is the value that a word writes; of a sum under way there is an S ahead of its number.
func written(word string) api.Value {
	switch {
	case word == "NULL":
		return null
	case word == "FALSE":
		return no
	case word == "TRUE":
		return yes
	case word[0] == '\'':
		return text(word[1 : len(word)-1])
	case word[0] == 'S':
		x, ok := new(big.Int).SetString(word[1:], 10)
		if !ok {
			panic(word)
		}
		return under(x)
	}
	n, e := strconv.ParseInt(word, 10, 64)
	if e != nil {
		panic(word)
	}
	return number(n)
}

// list is rows as they are written: a stroke between each two of them, blanks between values.
func list(s string) []api.Row {
	var l []api.Row
	if s == "" {
		return l
	}
	for _, line := range strings.Split(s, "/") {
		r := api.Row{}
		for _, word := range strings.Fields(line) {
			r = append(r, written(word))
		}
		l = append(l, r)
	}
	return l
}

// counted are rows of one number each, from 1 on.
func counted(count int) []api.Row {
	l := make([]api.Row, count)
	for k := range l {
		l[k] = api.Row{number(int64(k + 1))}
	}
	return l
}

func exprOf(l ...api.ENode) api.Expr {
	return api.Expr{Nodes: l}
}

func lit(v api.Value) api.Expr {
	return exprOf(api.ENode{Tag: api.NLit, L: -1, R: -1, Value: v})
}

func num(n int64) api.Expr {
	return lit(number(n))
}

func col(n int) api.Expr {
	return exprOf(api.ENode{Tag: api.ECol, L: -1, R: -1, Col: n})
}

// on is the expression of a tag over one part, or two.
func on(tag int, parts ...api.Expr) api.Expr {
	root := api.ENode{Tag: tag, L: -1, R: -1}
	var l []api.ENode
	for k, p := range parts {
		by := len(l)
		for _, n := range p.Nodes {
			if n.L >= 0 {
				n.L += by
			}
			if n.R >= 0 {
				n.R += by
			}
			l = append(l, n)
		}
		if k == 0 {
			root.L = len(l) - 1
		} else {
			root.R = len(l) - 1
		}
	}
	return exprOf(append(l, root)...)
}

func eq(a, b int) api.Expr {
	return on(api.NEq, col(a), col(b))
}

// bad faults where a column has a number, and else comes to a number, or null.
func bad(column int, n int64) api.Expr {
	return on(api.NDiv, num(1), on(api.NSub, col(column), num(n)))
}

// badTruth faults where bad does, and else is true, if the column is not null.
func badTruth(column int, n int64) api.Expr {
	return on(api.NNotNull, bad(column, n))
}

func agg(tag int, arg ...api.Expr) api.Agg {
	a := api.Agg{Tag: tag}
	for _, x := range arg {
		a.Arg = x
	}
	return a
}

// eachAgg are all aggregates of an Arg.
func eachAgg(arg api.Expr) []api.Agg {
	return []api.Agg{agg(api.AggAll), agg(api.AggCount, arg), agg(api.AggSum, arg), agg(api.AggMin, arg), agg(api.AggMax, arg)}
}

func scan(table int, kinds ...int) api.LNode {
	return api.LNode{Op: api.LScan, A: -1, B: -1, Table: table, Kinds: kinds}
}

func input(frag int, kinds ...int) api.LNode {
	return api.LNode{Op: api.LInput, A: -1, B: -1, Table: frag, Kinds: kinds}
}

// The nodes of operators that have parts stand over the node 0; steps says their places.
func join(cond api.Expr) api.LNode {
	return api.LNode{Op: api.LJoin, B: -1, Cond: cond}
}

func leftJoin(cond api.Expr) api.LNode {
	return api.LNode{Op: api.LJoin, B: -1, Left: true, Cond: cond}
}

func filter(cond api.Expr) api.LNode {
	return api.LNode{Op: api.LFilter, B: -1, Cond: cond}
}

func group(keys []int, aggs ...api.Agg) api.LNode {
	return api.LNode{Op: api.LGroup, B: -1, Keys: keys, Aggs: aggs}
}

func partial(keys []int, aggs ...api.Agg) api.LNode {
	return api.LNode{Op: api.LPartial, B: -1, Keys: keys, Aggs: aggs}
}

// final has as many keys as said, and aggregates of tags.
func final(keys int, tags ...int) api.LNode {
	n := api.LNode{Op: api.LFinal, B: -1, Keys: firsts(keys)}
	for _, tag := range tags {
		n.Aggs = append(n.Aggs, agg(tag))
	}
	return n
}

// finalOf is what puts together what comes of an LPartial.
func finalOf(n api.LNode) api.LNode {
	var tags []int
	for _, a := range n.Aggs {
		tags = append(tags, a.Tag)
	}
	return final(len(n.Keys), tags...)
}

func project(items ...api.Expr) api.LNode {
	return api.LNode{Op: api.LProject, B: -1, Items: items}
}

func distinct() api.LNode {
	return api.LNode{Op: api.LDistinct, B: -1}
}

func union() api.LNode {
	return api.LNode{Op: api.LUnion, B: -1}
}

func sortBy(limit int, order ...api.Ord) api.LNode {
	return api.LNode{Op: api.LSort, B: -1, Order: order, Limit: limit}
}

// up and down order by a column.
func up(column int) api.Ord {
	return api.Ord{Col: column}
}

func down(column int) api.Ord {
	return api.Ord{Col: column, Desc: true}
}

// firsts are the first so many places.
func firsts(count int) []int {
	var l []int
	for k := range count {
		l = append(l, k)
	}
	return l
}

// steps are nodes in the order in which they stand, with the places that a tree's order has for their parts; -1, where there are too few.
func steps(l ...api.LNode) []api.LNode {
	l = slices.Clone(l)
	var free []int
	pop := func() int {
		if len(free) == 0 {
			return -1
		}
		place := free[len(free)-1]
		free = free[:len(free)-1]
		return place
	}
	for k, n := range l {
		n.A, n.B = -1, -1
		switch n.Op {
		case api.LScan, api.LInput:
		case api.LJoin, api.LUnion:
			n.B = pop()
			n.A = pop()
		default:
			n.A = pop()
		}
		l[k] = n
		free = append(free, k)
	}
	return l
}

// frag is a fragment of steps. How it goes on counts for Goes alone.
func frag(l ...api.LNode) api.Frag {
	return api.Frag{Nodes: steps(l...), At: api.AtAll, Way: api.WayGather}
}

// goes is a fragment that scans a table of kinds, and goes on by a Way.
func goes(kinds []int, way int, cols ...int) api.Frag {
	return api.Frag{Nodes: steps(input(0, kinds...)), At: api.AtAll, Way: way, Cols: cols}
}

// noNodes are nodes that may not be, of which some scan the table 0, some read the input 0.
func noNodes() [][]api.LNode {
	limited := scan(0, ki)
	limited.Limit = 1
	return [][]api.LNode{
		nil, {}, {{}}, steps(scan(0)), steps(input(0)), steps(limited), {{Op: api.LScan, Kinds: []int{ki}}},
		steps(scan(-1, ki)), steps(scan(api.MaxTables, ki)), steps(scan(0, kn)), steps(scan(0, ks)), steps(scan(0, ki, ki, ki, ki, ki)),
		steps(input(-1, ki)), steps(input(api.MaxFrags, ki)), steps(input(0, ks+1)), steps(input(0, -1)), steps(input(0, slices.Repeat([]int{ki}, api.MaxWidth+1)...)),
		steps(input(0, ki), input(1, ki)), steps(scan(0, ki), filter(num(1))), steps(scan(0, ki), filter(eq(0, 1))), steps(filter(lit(yes))),
		steps(input(0, ki), sortBy(-1), distinct()), steps(input(0, ki), partial([]int{0}), distinct()), steps(input(0, ks), distinct()),
		steps(scan(0, ki), final(1)), steps(input(0, ki, ki), final(1)), steps(input(0, ki), final(0, api.AggSum)), steps(input(0, ki), api.LNode{Op: api.LFinal + 1}),
		steps(append([]api.LNode{scan(0, ki)}, slices.Repeat([]api.LNode{distinct()}, api.MaxSteps)...)...),
		{input(0, ki), {Op: api.LDistinct, A: 1, B: -1}}, {input(0, ki), {Op: api.LDistinct}},
	}
}

// nowhere are numbers that are no place of a list of that many.
func nowhere(count int) []int {
	return []int{count, count + 1, -1, -2, math.MaxInt, math.MinInt, 1 << 32, 1<<32 + 1}
}

// with is a list with another thing at a place of it.
func with[T any](l []T, at int, x T) []T {
	l = slices.Clone(l)
	l[at] = x
	return l
}
