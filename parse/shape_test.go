package parse_test

import (
	"math/rand"
	"strconv"
	"strings"
	"unicode"

	"bowsprit/api"
)

// form is how a tag is written: on which level it stands, and around its parts what; and on which levels these have to stand to need no parentheses.
type form struct {
	level  int
	text   string
	levels []int
}

// forms are the forms of all tags with parts, a # for each part.
var forms = map[int]form{
	api.NOr: {1, "# OR #", []int{1, 2}}, api.NAnd: {2, "# AND #", []int{2, 3}}, api.NNot: {3, "NOT #", []int{3}},
	api.NEq: {4, "# = #", []int{5, 5}}, api.NNe: {4, "# <> #", []int{5, 5}}, api.NLt: {4, "# < #", []int{5, 5}},
	api.NLe: {4, "# <= #", []int{5, 5}}, api.NGt: {4, "# > #", []int{5, 5}}, api.NGe: {4, "# >= #", []int{5, 5}},
	api.NIsNull: {4, "# IS NULL", []int{5}}, api.NNotNull: {4, "# IS NOT NULL", []int{5}},
	api.NAdd: {5, "# + #", []int{5, 6}}, api.NSub: {5, "# - #", []int{5, 6}},
	api.NMul: {6, "# * #", []int{6, 7}}, api.NDiv: {6, "# / #", []int{6, 7}}, api.NNeg: {7, "- #", []int{7}},
	api.NCount: {8, "COUNT ( # )", []int{1}}, api.NSum: {8, "SUM ( # )", []int{1}},
	api.NMin: {8, "MIN ( # )", []int{1}}, api.NMax: {8, "MAX ( # )", []int{1}},
}

// shape is a tree as these tests have it, of whatever size: a tag with parts, or a leaf, and how that is written.
type shape struct {
	tag   int
	parts []*shape
	node  api.Node
	text  string
}

func over(tag int, parts ...*shape) *shape {
	return &shape{tag: tag, parts: parts}
}

// word is the leaf of a name or a literal, by how it is written.
func word(text string) *shape {
	n := api.Node{Tag: api.NLit, L: -1, R: -1}
	switch {
	case text == "NULL":
	case text == "FALSE" || text == "TRUE":
		n.Value = api.Value{Kind: api.VBool, N: int64(strings.Index("FALSE TRUE", text) / 6)}
	case text[0] == '\'':
		n.Value = api.Value{Kind: api.VText, S: strings.ReplaceAll(text[1:len(text)-1], "''", "'")}
	case text[0] >= '0' && text[0] <= '9':
		i, _ := strconv.ParseInt(text, 10, 64)
		n.Value = api.Value{Kind: api.VInt, N: i}
	case text == "COUNT ( * )":
		n.Tag = api.NCountAll
	default:
		n.Tag, n.Name = api.NName, text
		if table, own, ok := strings.Cut(text, " . "); ok {
			n.Table, n.Name = table, own
		}
	}
	return &shape{node: n, text: text}
}

// leaves are how some leaves are written, of each kind one or more.
var leaves = []string{"a", "b1", "t . a", "abcdefghij_12345", "0", "7", "9223372036854775807", "2147483648", "''", "'it''s'", "'OR'", "'*'", "NULL", "TRUE", "FALSE", "COUNT ( * )"}

// tree is the shape as the program has it.
func (s *shape) tree() api.Tree {
	var nodes []api.Node
	var lay func(s *shape) int
	lay = func(s *shape) int {
		n := s.node
		if s.tag != 0 {
			n = api.Node{Tag: s.tag, L: lay(s.parts[0]), R: -1}
		}
		if len(s.parts) == 2 {
			n.R = lay(s.parts[1])
		}
		nodes = append(nodes, n)
		return len(nodes) - 1
	}
	lay(s)
	return api.Tree{Nodes: nodes}
}

// size is how many nodes it has, and its depth.
func (s *shape) size() (nodes, depth int) {
	for _, p := range s.parts {
		n, d := p.size()
		nodes, depth = nodes+n, max(depth, d)
	}
	return nodes + 1, depth + 1
}

// tokens is how it is written, in parentheses where they are needed, and in more of them as extra says.
func (s *shape) tokens(level int, extra func() bool) []string {
	if extra() {
		return enclosed(s.tokens(1, extra))
	}
	if s.tag == 0 {
		return strings.Fields(s.text)
	}
	f := forms[s.tag]
	if f.level < level {
		return enclosed(s.tokens(1, extra))
	}
	var out []string
	k := 0
	for _, piece := range strings.Fields(f.text) {
		if piece != "#" {
			out = append(out, piece)
			continue
		}
		out = append(out, s.parts[k].tokens(f.levels[k], extra)...)
		k++
	}
	return out
}

func enclosed(tokens []string) []string {
	return append(append([]string{"("}, tokens...), ")")
}

func noExtra() bool {
	return false
}

// least is how it is written with no more parentheses than are needed, close together.
func (s *shape) least() string {
	return packed(s.tokens(1, noExtra))
}

func isTogether(b byte) bool {
	return b == '_' || b < unicode.MaxASCII && (unicode.IsLetter(rune(b)) || unicode.IsDigit(rune(b)))
}

// packed lays tokens with blanks just where they would be one token without.
func packed(tokens []string) string {
	return laidBy(tokens, func(needed bool) string {
		if needed {
			return " "
		}
		return ""
	})
}

// laidBy lays tokens with blanks between each two as it is told.
func laidBy(tokens []string, blank func(needed bool) string) string {
	var out strings.Builder
	for k, token := range tokens {
		if k > 0 {
			before := tokens[k-1]
			out.WriteString(blank(isTogether(before[len(before)-1]) && isTogether(token[0])))
		}
		out.WriteString(token)
	}
	return out.String()
}

// loosely lays tokens with blanks of all kinds, and words in any case.
func loosely(r *rand.Rand, tokens []string) string {
	var cased []string
	for _, token := range tokens {
		if token[0] >= 'A' && token[0] <= 'Z' {
			token = anyCase(r, token)
		}
		cased = append(cased, token)
	}
	blanks := func(needed bool) string {
		var out []byte
		if needed || r.Intn(2) == 0 {
			out = append(out, " \t\n\r"[r.Intn(4)])
		}
		if r.Intn(6) == 0 {
			out = append(out, " \t\n\r"[r.Intn(4)])
		}
		return string(out)
	}
	return blanks(false) + laidBy(cased, blanks) + blanks(false)
}

func anyCase(r *rand.Rand, word string) string {
	b := []byte(word)
	for k := range b {
		if r.Intn(2) == 0 {
			b[k] += 'a' - 'A'
		}
	}
	return string(b)
}

// anyShape is a shape of at most a depth.
func anyShape(r *rand.Rand, depth int) *shape {
	if depth <= 1 || r.Intn(5) == 0 {
		return word(leaves[r.Intn(len(leaves))])
	}
	tag := api.NNeg + r.Intn(api.NOr-api.NNeg+1)
	s := over(tag)
	for range forms[tag].levels {
		s.parts = append(s.parts, anyShape(r, depth-1))
	}
	return s
}

// deepShape is a shape of just a depth, and of few nodes.
func deepShape(r *rand.Rand, depth int) *shape {
	if depth <= 1 {
		return word("a")
	}
	tag := api.NNeg + r.Intn(api.NOr-api.NNeg+1)
	s := over(tag)
	deep := r.Intn(len(forms[tag].levels))
	for k := range forms[tag].levels {
		if k == deep {
			s.parts = append(s.parts, deepShape(r, depth-1))
		} else {
			s.parts = append(s.parts, anyShape(r, min(depth-1, 2)))
		}
	}
	return s
}

// wide is a shape of n leaves, and of no more depth than it needs.
func wide(n int) *shape {
	if n == 1 {
		return word("a")
	}
	return over(api.NAdd, wide(n/2), wide(n-n/2))
}

// sized is a shape of n nodes, and of no more depth than it needs.
func sized(n int) *shape {
	if n%2 == 1 {
		return wide((n + 1) / 2)
	}
	return over(api.NSub, over(api.NNeg, wide(n/4)), wide(n/2-n/4))
}
