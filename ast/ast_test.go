package ast_test

import (
	"math"
	"slices"
	"strings"
	"testing"

	"bowsprit/api"
	"bowsprit/ast"
)

// leaf is a node without parts; all nodes of these tests are laid without the program.
func leaf(tag int) api.Node {
	return api.Node{Tag: tag, L: -1, R: -1}
}

func literal(v api.Value) api.Node {
	return api.Node{Tag: api.NLit, L: -1, R: -1, Value: v}
}

func number(n int64) api.Node {
	return literal(api.Value{Kind: api.VInt, N: n})
}

func text(s string) api.Node {
	return literal(api.Value{Kind: api.VText, S: s})
}

func named(s string) api.Node {
	return api.Node{Tag: api.NName, L: -1, R: -1, Name: s}
}

func column(table, s string) api.Node {
	return api.Node{Tag: api.NName, L: -1, R: -1, Table: table, Name: s}
}

func node(tag, l, r int) api.Node {
	return api.Node{Tag: tag, L: l, R: r}
}

func tree(nodes ...api.Node) api.Tree {
	return api.Tree{Nodes: nodes}
}

// Tags by how many parts they have.
var (
	noParts = []int{api.NLit, api.NName, api.NCountAll}
	calls   = []int{api.NCount, api.NSum, api.NMin, api.NMax}
	onePart = append([]int{api.NNeg, api.NNot, api.NIsNull, api.NNotNull}, calls...)
	twos    = []int{api.NAdd, api.NSub, api.NMul, api.NDiv, api.NEq, api.NNe, api.NLt, api.NLe, api.NGt, api.NGe, api.NAnd, api.NOr}
	noTags  = []int{0, -1, api.NOr + 1, 256 + api.NNeg, 1 << 32, math.MaxInt, math.MinInt}
)

// on is the tree of a tag over parts, laid without the program.
func on(tag int, parts ...api.Tree) api.Tree {
	root := leaf(tag)
	var nodes []api.Node
	for k, p := range parts {
		by := len(nodes)
		for _, n := range p.Nodes {
			if n.L >= 0 {
				n.L += by
			}
			if n.R >= 0 {
				n.R += by
			}
			nodes = append(nodes, n)
		}
		if k == 0 {
			root.L = len(nodes) - 1
		} else {
			root.R = len(nodes) - 1
		}
	}
	return api.Tree{Nodes: append(nodes, root)}
}

// chain is a tree of that depth, each node but the last with one part.
func chain(depth int) api.Tree {
	t := tree(named("a"))
	for range depth - 1 {
		t = on(api.NNeg, t)
	}
	return t
}

// wide is a tree of that many nodes, as flat as it can be.
func wide(count int) api.Tree {
	switch count {
	case 1:
		return tree(named("a"))
	case 2:
		return on(api.NNot, tree(named("a")))
	}
	half := (count - 1) / 2
	return on(api.NAnd, wide(half), wide(count-1-half))
}

// literals are those that may stand in a tree, and unliterals those that may not.
func literals() []api.Node {
	l := []api.Node{literal(api.Value{}), literal(api.Value{Kind: api.VBool}), literal(api.Value{Kind: api.VBool, N: 1}), number(0), number(1), number(7), number(math.MaxInt64)}
	for _, s := range []string{"", " ", "~", "it's", "'", "''", "a b", "NULL", "7", " ~", strings.Repeat("x", api.MaxText)} {
		l = append(l, text(s))
	}
	return l
}

func unliterals() []api.Node {
	l := []api.Node{number(-1), number(-7), number(math.MinInt64)}
	for _, v := range []api.Value{
		{Kind: api.VSum}, {Kind: api.VSum, N: 1}, {Kind: api.VSum, U: 5}, {Kind: -1}, {Kind: 5}, {Kind: math.MaxInt}, {N: 1}, {U: 1}, {S: "a"},
		{Kind: api.VBool, N: 2}, {Kind: api.VBool, N: -1}, {Kind: api.VBool, U: 1}, {Kind: api.VInt, N: 1, U: 1}, {Kind: api.VInt, S: "a"}, {Kind: api.VText, N: 1, S: "a"}, {Kind: api.VText, U: 1},
	} {
		l = append(l, literal(v))
	}
	for _, s := range []string{"\x1f", "\x7f", "\x00", "\n", "\t", "a\tb", "ab\x1f", "\x7fab", "\x80", "é", "\xff", "ab\xff", strings.Repeat("x", api.MaxText+1), strings.Repeat("x", 1<<16)} {
		l = append(l, text(s))
	}
	return l
}

// goodNames may be names, and badNames may not (and are not empty).
func goodNames() []string {
	return []string{"a", "z9", "a_1", "abcdefghij_12345", "selects", "count_"}
}

func badNames() []string {
	return []string{"A", "aB", "1", "1a", "_a", "a b", " a", "a.b", "'a'", "*", "select", "count", "null", "é", "a\x00", strings.Repeat("a", api.MaxName+1), strings.Repeat("a", 1<<16)}
}

// depthByRule is the depth of the tree whose root stands at a place, and where it begins, reckoned from the root on; of what may not be 0.
func depthByRule(nodes []api.Node, place int) (depth, begin int) {
	if place < 0 {
		return 0, 0
	}
	n := nodes[place]
	switch {
	case slices.Contains(noParts, n.Tag) && n.L == -1 && n.R == -1:
		return 1, place
	case slices.Contains(onePart, n.Tag) && n.L == place-1 && n.R == -1:
		below, begin := depthByRule(nodes, n.L)
		if below == 0 {
			return 0, 0
		}
		return 1 + below, begin
	case slices.Contains(twos, n.Tag) && n.R == place-1:
		right, middle := depthByRule(nodes, n.R)
		if right == 0 || n.L != middle-1 {
			return 0, 0
		}
		left, begin := depthByRule(nodes, n.L)
		if left == 0 {
			return 0, 0
		}
		return 1 + max(left, right), begin
	}
	return 0, 0
}

func isTree(t *testing.T, x api.Tree, depth int) {
	t.Helper()
	if e, d := ast.CheckTree(x), ast.Depth(x); e != api.OK || d != depth {
		t.Errorf("%v: %v, of depth %v, not %v", x, e, d, depth)
	}
}

// isNoTree holds for all calls of trees, of each part of those with several.
func isNoTree(t *testing.T, x api.Tree) {
	t.Helper()
	if e, d := ast.CheckTree(x), ast.Depth(x); e != api.ErrAst || d != 0 {
		t.Errorf("%v: %v, of depth %v", x, e, d)
	}
	if s, e := ast.PrintTree(x); e != api.ErrAst || s != "" {
		t.Errorf("%v is written %q, %v", x, s, e)
	}
	good := tree(named("a"))
	refused := func(got api.Tree, e api.Errno) {
		t.Helper()
		if e != api.ErrAst || len(got.Nodes) != 0 {
			t.Errorf("of %v comes %v, %v", x, got, e)
		}
	}
	for _, place := range []int{-1, 0, len(x.Nodes) - 1, len(x.Nodes), math.MaxInt} {
		refused(ast.Part(x, place))
	}
	for _, tag := range []int{api.NNeg, api.NIsNull, api.NMax, api.NAdd, api.NLit, 0} {
		refused(ast.One(tag, x))
		refused(ast.Two(tag, x, good))
		refused(ast.Two(tag, good, x))
		refused(ast.Two(tag, x, x))
	}
}

// P8.1, P8.3: a tree of one node, of each tag, with its parts, without them, and with others.
func TestEachTag(t *testing.T) {
	for tag := api.NLit - 3; tag <= api.NOr+3; tag++ {
		parts := -1
		switch {
		case slices.Contains(noParts, tag):
			parts = 0
		case slices.Contains(onePart, tag):
			parts = 1
		case slices.Contains(twos, tag):
			parts = 2
		}
		root := leaf(tag)
		if tag == api.NName {
			root.Name = "a"
		}
		for has := range 4 {
			nodes := slices.Repeat([]api.Node{number(5)}, has)
			for l := -2; l <= has+1; l++ {
				for r := -2; r <= has+1; r++ {
					root.L, root.R = l, r
					x := tree(append(slices.Clone(nodes), root)...)
					if has == parts && (has < 1 && l == -1 || has > 0 && l == 0) && (has < 2 && r == -1 || has == 2 && r == 1) {
						isTree(t, x, 1+min(has, 1))
					} else {
						isNoTree(t, x)
					}
				}
			}
		}
	}
}

// P8.1: no nodes; a tag that is none, alone and over parts.
func TestNoTrees(t *testing.T) {
	isNoTree(t, api.Tree{})
	isNoTree(t, tree([]api.Node{}...))
	isNoTree(t, api.Tree{Nodes: make([]api.Node, 0, 5)})
	for _, tag := range noTags {
		isNoTree(t, tree(leaf(tag)))
		isNoTree(t, on(tag, tree(named("a"))))
		isNoTree(t, on(tag, tree(named("a")), tree(named("a"))))
		isNoTree(t, on(api.NNeg, tree(leaf(tag))))
		isNoTree(t, on(api.NAdd, tree(named("a")), tree(leaf(tag))))
	}
}

// P8.1: each literal that may be, and each that may not, alone and as a part.
func TestLiterals(t *testing.T) {
	for _, n := range literals() {
		isTree(t, tree(n), 1)
		isTree(t, on(api.NNeg, tree(n)), 2)
	}
	for _, n := range unliterals() {
		isNoTree(t, tree(n))
		isNoTree(t, on(api.NNeg, tree(n)))
	}
	for k := range 256 {
		n := text("a" + string([]byte{byte(k)}))
		if k < 32 || k > 126 {
			isNoTree(t, tree(n))
		} else {
			isTree(t, tree(n), 1)
		}
	}
}

// P8.1: what is a name, and a table's; what is none; and a table without a name.
func TestNamesOfNodes(t *testing.T) {
	for _, s := range goodNames() {
		isTree(t, tree(named(s)), 1)
		isTree(t, tree(column("t", s)), 1)
		isTree(t, tree(column(s, "a")), 1)
	}
	for _, s := range badNames() {
		isNoTree(t, tree(named(s)))
		isNoTree(t, tree(column("t", s)))
		isNoTree(t, tree(column(s, "a")))
	}
	isNoTree(t, tree(named("")))
	isNoTree(t, tree(column("t", "")))
}

// P8.1: what does not count of a tag, and is not zero.
func TestWhatDoesNotCount(t *testing.T) {
	spoil := func(n api.Node) []api.Node {
		var out []api.Node
		add := func(m api.Node) { out = append(out, m) }
		if n.Tag != api.NLit {
			for _, v := range []api.Value{{Kind: 1}, {Kind: api.VInt, N: 5}, {N: 1}, {U: 1}, {S: "a"}, {Kind: -1}} {
				m := n
				m.Value = v
				add(m)
			}
		}
		if n.Tag != api.NName {
			for _, s := range []string{"a", "A", " ", strings.Repeat("a", 1<<16)} {
				m := n
				m.Name = s
				add(m)
				m.Name, m.Table = "", s
				add(m)
			}
		}
		return out
	}
	for tag := api.NLit; tag <= api.NOr; tag++ {
		var x api.Tree
		switch {
		case tag == api.NName:
			x = tree(named("a"))
		case slices.Contains(noParts, tag):
			x = tree(leaf(tag))
		case slices.Contains(onePart, tag):
			x = on(tag, tree(number(1)))
		default:
			x = on(tag, tree(number(1)), tree(number(2)))
		}
		isTree(t, x, 1+min(1, len(x.Nodes)-1))
		last := len(x.Nodes) - 1
		for _, n := range spoil(x.Nodes[last]) {
			isNoTree(t, tree(append(slices.Clone(x.Nodes[:last]), n)...))
		}
	}
}

// P8.1: nodes in another order, and such as do not stand below the root, or below two.
func TestOrder(t *testing.T) {
	a, b, c := named("a"), named("b"), named("c")
	isTree(t, tree(a, b, node(api.NAdd, 0, 1), c, node(api.NSub, 2, 3)), 3)
	isTree(t, tree(a, b, c, node(api.NSub, 1, 2), node(api.NAdd, 0, 3)), 3)
	isTree(t, tree(a, node(api.NNeg, 0, -1), b, node(api.NNeg, 2, -1), node(api.NAdd, 1, 3)), 3)
	for _, x := range []api.Tree{
		tree(a, b), tree(a, a, b), tree(a, b, node(api.NNeg, 1, -1)), tree(a, b, node(api.NNeg, 0, -1)), // nodes beside the root
		tree(a, node(api.NNeg, 0, -1), b), tree(a, b, node(api.NAdd, 0, 1), c), tree(node(api.NNeg, 1, -1), a), // the root is not the last one
		tree(a, b, node(api.NAdd, 1, 0)), tree(node(api.NAdd, 1, 2), a, b), tree(a, node(api.NAdd, 0, 2), b), // parts the other way round, and behind
		tree(a, node(api.NAdd, 0, 0)), tree(a, b, node(api.NAdd, 0, 0)), tree(a, b, node(api.NAdd, 1, 1)), // one part twice
		tree(b, a, c, node(api.NSub, 0, 2), node(api.NAdd, 1, 3)), tree(a, b, c, node(api.NAdd, 0, 1), node(api.NSub, 3, 2)), // right ahead of left
		tree(a, b, c, node(api.NSub, 1, 2), node(api.NAdd, 0, 2)), tree(a, b, c, node(api.NSub, 1, 2), node(api.NAdd, 1, 3)), // another one's
		tree(a, b, node(api.NNeg, 0, -1), node(api.NAdd, 2, 1)), tree(a, b, node(api.NNeg, 0, -1), node(api.NAdd, 1, 2)), // what is between
		tree(a, b, c, node(api.NAdd, 0, 2), node(api.NSub, 3, 1)), tree(a, b, c, node(api.NAdd, 1, 2)), tree(a, b, c, node(api.NAdd, 0, 1)),
		tree(node(api.NNeg, 0, -1)), tree(a, node(api.NNeg, 1, -1)), tree(a, node(api.NNeg, 2, -1)), tree(node(api.NAdd, 0, 0)), tree(a, node(api.NAdd, 0, 1)), // itself, and a later one
		tree(a, node(api.NNeg, -1, 0)), tree(a, node(api.NNeg, 0, 0)), tree(a, node(api.NNeg, 0, -2)), tree(a, node(api.NNeg, math.MaxInt, -1)), tree(a, node(api.NNeg, math.MinInt, -1)),
		tree(a, b, node(api.NAdd, 0, math.MaxInt)), tree(a, b, node(api.NAdd, 0, 2)), tree(a, b, node(api.NAdd, 0, 3)), tree(a, b, node(api.NAdd, -1, 1)), tree(a, b, node(api.NAdd, 0, -1)), tree(a, b, node(api.NAdd, math.MinInt, 1)),
	} {
		isNoTree(t, x)
	}
}

// P8.1, P8.3: all rows of up to three nodes (of a tag of no parts, one, two, and places of parts near to them), held against the reckoning from the root on.
func TestTreesByRule(t *testing.T) {
	var all []api.Node
	for l := -1; l <= 2; l++ {
		for r := -1; r <= 2; r++ {
			all = append(all, node(api.NCountAll, l, r), node(api.NMin, l, r), node(api.NEq, l, r))
		}
	}
	held := func(nodes ...api.Node) int {
		want, begin := depthByRule(nodes, len(nodes)-1)
		if begin != 0 {
			want = 0
		}
		if d, e := ast.Depth(tree(nodes...)), ast.CheckTree(tree(nodes...)); d != want || (e == api.OK) != (want > 0) {
			t.Errorf("%v: %v %v, not %v", nodes, d, e, want)
		}
		return min(want, 1)
	}
	trees := 0
	for _, a := range all {
		trees += held(a)
		for _, b := range all {
			trees += held(a, b)
			for _, c := range all {
				trees += held(a, b, c)
			}
		}
	}
	if trees != 4 {
		t.Errorf("%d trees", trees)
	}
}

// P8.1, P8.3: greater trees, with one place of them another one.
func TestSpoiledTreesByRule(t *testing.T) {
	state := uint32(1)
	drawn := func(n int) int {
		state = state*1664525 + 1013904223
		return int(state>>8) % n
	}
	for range 3000 {
		x := random(drawn, 4)
		nodes := x.Nodes
		depth, begin := depthByRule(nodes, len(nodes)-1)
		if begin != 0 || depth == 0 {
			t.Fatal(nodes)
		}
		isTree(t, x, depth)
		spoiled := slices.Clone(nodes)
		at := drawn(len(nodes))
		switch drawn(4) {
		case 0:
			spoiled[at].L = drawn(len(nodes)+2) - 1
		case 1:
			spoiled[at].R = drawn(len(nodes)+2) - 1
		case 2:
			other := drawn(len(nodes))
			spoiled[at], spoiled[other] = spoiled[other], spoiled[at]
		default:
			spoiled = slices.Delete(spoiled, at, at+1)
		}
		want := 0
		if d, begin := depthByRule(spoiled, len(spoiled)-1); begin == 0 {
			want = d
		}
		if d, e := ast.Depth(tree(spoiled...)), ast.CheckTree(tree(spoiled...)); d != want || (e == api.OK) != (want > 0) {
			t.Errorf("%v: %v %v, not %v", spoiled, d, e, want)
		}
	}
}

// random is a tree of a depth of up to one more than that, by what is drawn.
func random(drawn func(int) int, depth int) api.Tree {
	leaves := append(literals(), named("a"), column("t", "b"), leaf(api.NCountAll))
	kind := drawn(3)
	if depth == 0 {
		kind = 0
	}
	switch kind {
	case 0:
		return tree(leaves[drawn(len(leaves))])
	case 1:
		return on(onePart[drawn(len(onePart))], random(drawn, depth-1))
	}
	return on(twos[drawn(len(twos))], random(drawn, depth-1), random(drawn, depth-1))
}

// P8.1, P8.3: a tree of one node, of 300 and of one more; a depth of 20 and of one more, on either side.
func TestLimits(t *testing.T) {
	isTree(t, wide(1), 1)
	isTree(t, wide(api.MaxNodes-1), 9)
	isTree(t, wide(api.MaxNodes), 9)
	for _, more := range []int{1, 2, 3, 1000} {
		isNoTree(t, wide(api.MaxNodes+more))
	}
	isNoTree(t, tree(slices.Repeat([]api.Node{named("a")}, 1<<20)...))
	a := tree(named("a"))
	for depth := 1; depth <= api.MaxDepth+3; depth++ {
		for _, x := range []api.Tree{chain(depth), on(api.NAdd, chain(depth-min(1, depth-1)), a), on(api.NAdd, a, chain(depth-min(1, depth-1)))} {
			if depth <= api.MaxDepth {
				isTree(t, x, max(depth, min(2, len(x.Nodes))))
			} else {
				isNoTree(t, x)
			}
		}
	}
	isTree(t, on(api.NOr, chain(api.MaxDepth-1), chain(api.MaxDepth-1)), api.MaxDepth)
	isNoTree(t, on(api.NOr, chain(api.MaxDepth-1), chain(api.MaxDepth)))
}

func comes(t *testing.T, got api.Tree, e api.Errno, want api.Tree) {
	t.Helper()
	if e != api.OK || !slices.Equal(got.Nodes, want.Nodes) {
		t.Errorf("%v, %v, not %v", got, e, want)
	}
}

func isRefused(t *testing.T, got api.Tree, e, want api.Errno) {
	t.Helper()
	if e != want || len(got.Nodes) != 0 {
		t.Errorf("%v, %v, not %v", got, e, want)
	}
}

// P8.2: a node alone, whatever its L and R are.
func TestLeaf(t *testing.T) {
	for _, n := range append(literals(), named("a"), column("t", "a"), leaf(api.NCountAll)) {
		want := tree(n)
		for _, place := range []int{-1, 0, 1, 5, -2, math.MaxInt, math.MinInt} {
			n.L, n.R = place, -place
			got, e := ast.Leaf(n)
			comes(t, got, e, want)
		}
	}
	wrong := append(unliterals(), named(""), column("t", ""), api.Node{}, api.Node{Tag: api.NName, Name: "a", Value: api.Value{Kind: 2}}, api.Node{Tag: api.NCountAll, Name: "a"}, api.Node{Tag: api.NLit, Table: "t"})
	for _, tag := range slices.Concat(onePart, twos, noTags) {
		wrong = append(wrong, leaf(tag), node(tag, 0, -1), node(tag, 0, 1))
	}
	for _, s := range badNames() {
		wrong = append(wrong, named(s), column(s, "a"))
	}
	for _, n := range wrong {
		got, e := ast.Leaf(n)
		isRefused(t, got, e, api.ErrAst)
	}
}

// parts are trees that are handed in, of unlike sizes.
func parts() []api.Tree {
	a, b := tree(named("a")), tree(column("t", "b"))
	return []api.Tree{a, tree(number(1)), tree(text("it's")), tree(leaf(api.NCountAll)), on(api.NSum, b), on(api.NNot, on(api.NIsNull, a)), on(api.NAdd, a, b), on(api.NOr, on(api.NNeg, a), on(api.NLt, b, on(api.NDiv, a, a)))}
}

// P8.2: each tag over one part, and over two: those that have as many, and those that have not.
func TestOneAndTwo(t *testing.T) {
	for tag := range api.NOr + 4 {
		for _, l := range parts() {
			got, e := ast.One(tag, l)
			if slices.Contains(onePart, tag) {
				comes(t, got, e, on(tag, l))
			} else {
				isRefused(t, got, e, api.ErrAst)
			}
			for _, r := range parts() {
				got, e := ast.Two(tag, l, r)
				if slices.Contains(twos, tag) {
					comes(t, got, e, on(tag, l, r))
				} else {
					isRefused(t, got, e, api.ErrAst)
				}
			}
		}
	}
	for _, tag := range noTags {
		got, e := ast.One(tag, tree(named("a")))
		isRefused(t, got, e, api.ErrAst)
		got, e = ast.Two(tag, tree(named("a")), tree(named("b")))
		isRefused(t, got, e, api.ErrAst)
	}
}

// P8.2: what comes too deep, and too large, of parts that may be.
func TestTooDeepAndTooLarge(t *testing.T) {
	a := tree(named("a"))
	got, e := ast.One(api.NNot, chain(api.MaxDepth-1))
	comes(t, got, e, on(api.NNot, chain(api.MaxDepth-1)))
	got, e = ast.One(api.NNot, chain(api.MaxDepth))
	isRefused(t, got, e, api.ErrAst)
	got, e = ast.Two(api.NAdd, a, chain(api.MaxDepth-1))
	comes(t, got, e, on(api.NAdd, a, chain(api.MaxDepth-1)))
	for _, x := range [][2]api.Tree{{a, chain(api.MaxDepth)}, {chain(api.MaxDepth), a}, {chain(api.MaxDepth), chain(api.MaxDepth)}} {
		got, e = ast.Two(api.NAdd, x[0], x[1])
		isRefused(t, got, e, api.ErrAst)
	}
	got, e = ast.One(api.NNot, wide(api.MaxNodes-1))
	comes(t, got, e, on(api.NNot, wide(api.MaxNodes-1)))
	got, e = ast.One(api.NNot, wide(api.MaxNodes))
	isRefused(t, got, e, api.ErrAst)
	for _, x := range [][3]int{{1, 298, 0}, {298, 1, 0}, {149, 150, 0}, {150, 150, 1}, {1, 299, 1}, {299, 1, 1}, {300, 300, 1}} {
		l, r := wide(x[0]), wide(x[1])
		got, e := ast.Two(api.NEq, l, r)
		if x[2] == 0 {
			comes(t, got, e, on(api.NEq, l, r))
		} else {
			isRefused(t, got, e, api.ErrAst)
		}
	}
}

// P8.3: each place of trees, and places that are none.
func TestPart(t *testing.T) {
	a, b := tree(named("a")), tree(column("t", "b"))
	inner := on(api.NDiv, b, tree(number(3)))
	left, right := on(api.NNeg, a), on(api.NLt, inner, on(api.NSum, a))
	whole := on(api.NOr, left, right)
	want := []api.Tree{a, left, b, tree(number(3)), inner, a, on(api.NSum, a), right, whole}
	for place, part := range want {
		got, e := ast.Part(whole, place)
		comes(t, got, e, part)
		isTree(t, got, ast.Depth(part))
	}
	for _, x := range []api.Tree{a, whole, wide(300), chain(20)} {
		for _, place := range []int{-1, -2, len(x.Nodes), len(x.Nodes) + 1, math.MaxInt, math.MinInt} {
			got, e := ast.Part(x, place)
			isRefused(t, got, e, api.ErrArg)
		}
	}
	got, e := ast.Part(on(api.NAdd, a, tree(number(1))), 1)
	comes(t, got, e, tree(number(1)))
	got, e = ast.Part(a, 1)
	isRefused(t, got, e, api.ErrArg)
}

// P8.1: the same, and apart by each field, at each place; trees that may not be too.
func TestSameTree(t *testing.T) {
	same := func(a, b api.Tree, want bool) {
		t.Helper()
		if ast.SameTree(a, b) != want || ast.SameTree(b, a) != want {
			t.Errorf("%v, %v: not %v", a, b, want)
		}
	}
	same(api.Tree{}, api.Tree{}, true)
	same(api.Tree{}, api.Tree{Nodes: []api.Node{}}, true)
	same(api.Tree{}, tree(api.Node{}), false)
	same(tree(api.Node{Tag: -1, L: 9}), tree(api.Node{Tag: -1, L: 9}), true)
	whole := on(api.NOr, on(api.NNeg, tree(named("a"))), on(api.NLt, tree(column("t", "b")), tree(number(3))))
	same(whole, tree(slices.Clone(whole.Nodes)...), true)
	same(whole, tree(whole.Nodes[1:]...), false)
	same(whole, tree(whole.Nodes[:4]...), false)
	for place := range whole.Nodes {
		for _, change := range []func(*api.Node){
			func(n *api.Node) { n.Tag++ }, func(n *api.Node) { n.L++ }, func(n *api.Node) { n.R++ }, func(n *api.Node) { n.Table += "a" }, func(n *api.Node) { n.Name += "a" },
			func(n *api.Node) { n.Value.Kind++ }, func(n *api.Node) { n.Value.N++ }, func(n *api.Node) { n.Value.U++ }, func(n *api.Node) { n.Value.S += "a" },
		} {
			other := slices.Clone(whole.Nodes)
			change(&other[place])
			same(whole, tree(other...), false)
		}
	}
	for i, a := range parts() {
		for j, b := range parts() {
			same(a, b, i == j)
		}
	}
}

// rebuilt is a tree made of its parts again, down to its leaves.
func rebuilt(t *testing.T, x api.Tree) api.Tree {
	t.Helper()
	root := x.Nodes[len(x.Nodes)-1]
	below := func(place int) api.Tree {
		p, e := ast.Part(x, place)
		if e != api.OK || ast.Depth(p) >= ast.Depth(x) {
			t.Errorf("part %d of %v: %v %v", place, x, p, e)
		}
		return rebuilt(t, p)
	}
	var out api.Tree
	var e api.Errno
	switch {
	case root.L < 0:
		out, e = ast.Leaf(root)
	case root.R < 0:
		out, e = ast.One(root.Tag, below(root.L))
	default:
		l, r := below(root.L), below(root.R)
		out, e = ast.Two(root.Tag, l, r)
	}
	if e != api.OK {
		t.Errorf("%v: %v", x, e)
	}
	return out
}

// P8.5: made of its parts a tree is itself; the part of the last place is the tree; the depth of each other one is less.
func TestMadeOfItsParts(t *testing.T) {
	state := uint32(7)
	drawn := func(n int) int {
		state = state*1664525 + 1013904223
		return int(state>>8) % n
	}
	all := append(parts(), chain(1), chain(2), chain(api.MaxDepth), wide(2), wide(api.MaxNodes), on(api.NOr, chain(19), chain(19)))
	for range 500 {
		all = append(all, random(drawn, 5))
	}
	for _, x := range all {
		got := rebuilt(t, x)
		if !ast.SameTree(got, x) || !slices.Equal(got.Nodes, x.Nodes) {
			t.Errorf("%v, not %v", got, x)
		}
		last := len(x.Nodes) - 1
		whole, e := ast.Part(x, last)
		comes(t, whole, e, x)
		for place := range last {
			if p, e := ast.Part(x, place); e != api.OK || ast.Depth(p) < 1 || ast.Depth(p) >= ast.Depth(x) {
				t.Errorf("part %d of %v: %v %v", place, x, p, e)
			}
		}
	}
}

// R3: what is handed in stays as it is, the room behind its end too, and is not shared with what is answered.
func TestNothingIsShared(t *testing.T) {
	room := append(make([]api.Node, 0, 9), named("a"), number(1), node(api.NAdd, 0, 1), text("behind"), text("far behind"))
	kept := slices.Clone(room)
	x := tree(room[:3]...)
	for _, call := range []func() (api.Tree, api.Errno){
		func() (api.Tree, api.Errno) { return ast.One(api.NNeg, x) },
		func() (api.Tree, api.Errno) { return ast.Two(api.NSub, x, x) },
		func() (api.Tree, api.Errno) { return ast.Part(x, 2) },
		func() (api.Tree, api.Errno) { return ast.Part(x, 0) },
	} {
		first, e := call()
		if e != api.OK {
			t.Fatal(e)
		}
		want := slices.Clone(first.Nodes)
		for k := range first.Nodes {
			first.Nodes[k] = text("changed")
		}
		second, _ := call()
		if !slices.Equal(room, kept) || !slices.Equal(second.Nodes, want) {
			t.Errorf("%v, %v, not %v", room, second, want)
		}
	}
	ast.CheckTree(x)
	ast.Depth(x)
	ast.PrintTree(x)
	ast.SameTree(x, x)
	if !slices.Equal(room, kept) {
		t.Error(room)
	}
}
