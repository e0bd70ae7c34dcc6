package parse

import (
	"bowsprit/api"
	"bowsprit/ast"
)

// The levels of exprs of which two parts may be joined.
const (
	ofOr = 1 + iota
	ofAnd
	ofTest
	ofSum
	ofProduct
)

// joint is what a token joins: two parts of a level, as a tag.
type joint struct {
	level, tag int
}

func joints() map[string]joint {
	return map[string]joint{
		"OR":  {ofOr, api.NOr},
		"AND": {ofAnd, api.NAnd},
		"=":   {ofTest, api.NEq},
		"<>":  {ofTest, api.NNe},
		"<":   {ofTest, api.NLt},
		"<=":  {ofTest, api.NLe},
		">":   {ofTest, api.NGt},
		">=":  {ofTest, api.NGe},
		"+":   {ofSum, api.NAdd},
		"-":   {ofSum, api.NSub},
		"*":   {ofProduct, api.NMul},
		"/":   {ofProduct, api.NDiv},
	}
}

// joining takes the token that is ahead, if it joins parts of a level, and is the tag; else 0, which is none.
func (r *reader) joining(level int) int {
	j := r.joints[r.said()]
	if j.level != level {
		return 0
	}
	r.step()
	return j.tag
}

// whole reads an expr that stands within no other one. What may not be is told just here, for a token within the expr that may not stand there goes ahead of it.
func (r *reader) whole() api.Tree {
	at := r.ahead().At
	t := r.expr()
	if ast.CheckTree(t) != api.OK {
		r.failAt(at, api.ErrDeep)
	}
	return t
}

func (r *reader) expr() api.Tree {
	return r.row(ofOr, r.and)
}

func (r *reader) and() api.Tree {
	return r.row(ofAnd, r.not)
}

func (r *reader) not() api.Tree {
	if r.take("NOT") {
		return joined(api.NNot, r.not())
	}
	return r.test()
}

func (r *reader) test() api.Tree {
	t := r.sum()
	if tag := r.joining(ofTest); tag != 0 {
		return joined(tag, t, r.sum())
	}
	if !r.take("IS") {
		return t
	}
	tag := api.NIsNull
	if r.take("NOT") {
		tag = api.NNotNull
	}
	r.need("NULL")
	return joined(tag, t)
}

func (r *reader) sum() api.Tree {
	return r.row(ofSum, r.product)
}

func (r *reader) product() api.Tree {
	return r.row(ofProduct, r.sign)
}

func (r *reader) sign() api.Tree {
	if r.take("-") {
		return joined(api.NNeg, r.sign())
	}
	return r.primary()
}

// row reads parts that are joined from the left on, as many as there are.
func (r *reader) row(level int, part func() api.Tree) api.Tree {
	t := part()
	for tag := r.joining(level); tag != 0; tag = r.joining(level) {
		t = joined(tag, t, part())
	}
	return t
}

func (r *reader) primary() api.Tree {
	t := r.ahead()
	switch t.Kind {
	case api.TkNumber:
		return r.literal(api.Value{Kind: api.VInt, N: int64(t.N)})
	case api.TkText:
		return r.literal(api.Value{Kind: api.VText, S: t.Text})
	case api.TkName:
		n := r.name()
		return leaf(api.Node{Tag: api.NName, Table: n.Table, Name: n.Name})
	}
	return r.worded()
}

// worded reads a primary that begins with a word or a sign.
func (r *reader) worded() api.Tree {
	switch r.said() {
	case "NULL":
		return r.literal(api.Value{Kind: api.VNull})
	case "FALSE":
		return r.literal(api.Value{Kind: api.VBool, N: 0})
	case "TRUE":
		return r.literal(api.Value{Kind: api.VBool, N: 1})
	case "COUNT":
		return r.call(api.NCount)
	case "SUM":
		return r.call(api.NSum)
	case "MIN":
		return r.call(api.NMin)
	case "MAX":
		return r.call(api.NMax)
	case "(":
		r.step()
		return r.closed()
	}
	r.fail(api.ErrParse)
	return api.Tree{}
}

// literal takes the one token that says a value.
func (r *reader) literal(v api.Value) api.Tree {
	r.step()
	return leaf(api.Node{Tag: api.NLit, Value: v})
}

// call reads a call from its word on. Just COUNT may be of a star.
func (r *reader) call(tag int) api.Tree {
	r.step()
	r.need("(")
	if tag == api.NCount && r.take("*") {
		r.need(")")
		return leaf(api.Node{Tag: api.NCountAll})
	}
	return joined(tag, r.closed())
}

// closed reads an expr behind the parenthesis that opens it. Of that one and the other one nothing is left.
func (r *reader) closed() api.Tree {
	t := r.expr()
	r.need(")")
	return t
}

func leaf(n api.Node) api.Tree {
	t, _ := ast.Leaf(n)
	return t
}

// joined is a tree over parts. One that may not be has no nodes, nor has any over it: so it is still known when all of the expr has been read.
func joined(tag int, parts ...api.Tree) api.Tree {
	var t api.Tree
	switch len(parts) {
	case 1:
		t, _ = ast.One(tag, parts[0])
	case 2:
		t, _ = ast.Two(tag, parts[0], parts[1])
	}
	return t
}
