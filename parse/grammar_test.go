package parse_test

import (
	"strings"

	"bowsprit/api"
)

// grammar is the chapter's, with a bar between what stands at choice. a_number is one of at most MaxNumber, a_great a greater one.
const grammar = `
query = select { UNION ALL select } [ ORDER BY key { "," key } ] [ LIMIT a_number ]
select = SELECT [ DISTINCT ] ( "*" | item { "," item } ) FROM source { [ LEFT ] JOIN source ON expr } [ WHERE expr ] [ GROUP BY name { "," name } ] [ HAVING expr ]
item = expr [ AS a_name ]
source = a_name [ a_name ]
key = ( a_name | a_number ) [ ASC | DESC ]
name = a_name [ "." a_name ]
expr = and { OR and }
and = not { AND not }
not = NOT not | test
test = sum [ ( "=" | "<>" | "<" | "<=" | ">" | ">=" ) sum | IS [ NOT ] NULL ]
sum = product { ( "+" | "-" ) product }
product = sign { ( "*" | "/" ) sign }
sign = "-" sign | primary
primary = a_number | a_great | a_text | TRUE | FALSE | NULL | name | COUNT "(" "*" ")" | ( COUNT | SUM | MIN | MAX ) "(" expr ")" | "(" expr ")"
`

// What a part of the grammar is, besides what stands in brackets, which is told by the bracket that opens it.
const (
	inTurn   = "in turn"
	atChoice = "at choice"
	atom     = "atom"
)

// part is a part of the grammar.
type part struct {
	is    string
	parts []*part
	text  string
}

// rules is the grammar's parts, by their names.
var rules = readGrammar(grammar)

func readGrammar(text string) map[string]*part {
	all := map[string]*part{}
	for _, line := range strings.Split(strings.TrimSpace(text), "\n") {
		name, what, _ := strings.Cut(line, " = ")
		fields := strings.Fields(what)
		all[name] = readChoice(&fields)
	}
	return all
}

// readChoice reads up to a bracket that closes, or the end.
func readChoice(fields *[]string) *part {
	row := &part{is: inTurn}
	choice := &part{is: atChoice, parts: []*part{row}}
	for len(*fields) > 0 {
		f := (*fields)[0]
		*fields = (*fields)[1:]
		switch f {
		case "|":
			row = &part{is: inTurn}
			choice.parts = append(choice.parts, row)
		case "(", "[", "{":
			row.parts = append(row.parts, &part{is: f, parts: []*part{readChoice(fields)}})
		case ")", "]", "}":
			return choice
		default:
			row.parts = append(row.parts, &part{is: atom, text: strings.Trim(f, `"`)})
		}
	}
	return choice
}

// stack is what has to come yet, the next thing on top.
type stack struct {
	top   *part
	below *stack
}

// open tells each token that may come next, and what has to come behind it; nothing, if it may end here.
func (s *stack) open(tell func(token string, behind *stack)) {
	if s == nil {
		tell("", nil)
		return
	}
	switch s.top.is {
	case inTurn:
		rest := s.below
		for k := len(s.top.parts) - 1; k >= 0; k-- {
			rest = &stack{s.top.parts[k], rest}
		}
		rest.open(tell)
		return
	case atom:
		if rule := rules[s.top.text]; rule != nil {
			(&stack{rule, s.below}).open(tell)
		} else {
			tell(s.top.text, s.below)
		}
		return
	case "[", "{":
		s.below.open(tell)
	}
	behind := s.below
	if s.top.is == "{" {
		behind = s
	}
	for _, p := range s.top.parts {
		(&stack{p, behind}).open(tell)
	}
}

// ways are all ways in which a row of tokens may be read.
type ways []*stack

func begin(rule string) ways {
	return ways{{rules[rule], nil}}
}

// next is how it may go on behind a token: in no way, if that may not stand there.
func (w ways) next(token string) ways {
	var out ways
	for _, s := range w {
		s.open(func(other string, behind *stack) {
			if other == token {
				out = append(out, behind)
			}
		})
	}
	return out
}

// may are the tokens that may come next (the empty one is the end), each once.
func (w ways) may() []string {
	var out []string
	seen := map[string]bool{}
	for _, s := range w {
		s.open(func(token string, _ *stack) {
			if !seen[token] {
				seen[token] = true
				out = append(out, token)
			}
		})
	}
	return out
}

// counter counts what there may be just so many of.
type counter struct {
	commas, most, joins, unions int
	left                        bool
}

// tooMany counts a token that may stand where it stands, and tells whether it is one too many.
func (c *counter) tooMany(token string) bool {
	left := c.left
	c.left = token == "LEFT"
	switch token {
	case "SELECT":
		c.commas, c.most, c.joins = 0, api.MaxItems, 0
	case "GROUP":
		c.commas, c.most = 0, api.MaxNames
	case "ORDER":
		c.commas, c.most = 0, api.MaxKeys
	case ",":
		c.commas++
		return c.commas >= c.most
	case "LEFT":
		c.joins++
		return c.joins > api.MaxJoins
	case "JOIN":
		if !left {
			c.joins++
		}
		return c.joins > api.MaxJoins
	case "UNION":
		c.unions++
		return c.unions >= api.MaxSelects
	}
	return false
}

// verdict is where tokens, one blank between each two, are wrong, and how; it knows nothing of trees that may not be.
func verdict(rule string, tokens []string) (int, api.Errno) {
	at, w, c := 0, begin(rule), &counter{}
	for _, token := range tokens {
		kind := kindOf(token)
		w = w.next(kind)
		if len(w) == 0 {
			return at, api.ErrParse
		}
		if c.tooMany(kind) {
			return at, api.ErrMany
		}
		at += len(token) + 1
	}
	if len(w.next("")) == 0 {
		return len(strings.Join(tokens, " ")), api.ErrParse
	}
	return 0, api.OK
}

// kindOf is what the grammar calls a token.
func kindOf(token string) string {
	switch first := token[0]; {
	case first == '\'':
		return "a_text"
	case first >= 'a' && first <= 'z':
		return "a_name"
	case first >= '0' && first <= '9':
		if len(token) > 10 || len(token) == 10 && token > "2147483647" {
			return "a_great"
		}
		return "a_number"
	}
	return token
}

// allTokens is one token of each kind, and of some kinds more.
const allTokens = "SELECT DISTINCT FROM LEFT JOIN ON WHERE GROUP BY HAVING UNION ALL ORDER LIMIT ASC DESC AS AND OR NOT IS NULL TRUE FALSE COUNT SUM MIN MAX " +
	"( ) , . * + - / = <> < <= > >= b 0 2147483647 2147483648 9223372036854775807 'it''s' '' 'AS' '*' 'b'"
