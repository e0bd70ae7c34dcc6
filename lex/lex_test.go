package lex_test

import (
	"math"
	"regexp"
	"slices"
	"strconv"
	"strings"
	"testing"

	"bowsprit/api"
	"bowsprit/lex"
)

// language is the words as the chapter writes them.
const language = "SELECT DISTINCT FROM LEFT JOIN ON WHERE GROUP BY HAVING UNION ALL ORDER LIMIT ASC DESC AS AND OR NOT IS NULL TRUE FALSE COUNT SUM MIN MAX"

// allSigns is the signs as the chapter writes them.
const allSigns = "( ) , . * + - / = <> < <= > >="

func word(at int, s string) api.Token {
	return api.Token{Kind: api.TkWord, At: at, Text: s}
}

func name(at int, s string) api.Token {
	return api.Token{Kind: api.TkName, At: at, Text: s}
}

func number(at int, n uint64) api.Token {
	return api.Token{Kind: api.TkNumber, At: at, N: n}
}

func text(at int, s string) api.Token {
	return api.Token{Kind: api.TkText, At: at, Text: s}
}

func sign(at int, s string) api.Token {
	return api.Token{Kind: api.TkSign, At: at, Text: s}
}

// mixed is s with every other letter a small one.
func mixed(s string) string {
	b := []byte(s)
	for k := range b {
		if k%2 == 1 {
			b[k] += 'a' - 'A'
		}
	}
	return string(b)
}

func isRead(t *testing.T, s string, want ...api.Token) {
	t.Helper()
	l, at, e := lex.Tokens(s)
	if e != api.OK || at != 0 || !slices.Equal(l, want) {
		t.Errorf("%q: %v %v %v, not %v", s, l, at, e, want)
	}
}

func isWrong(t *testing.T, s string, place int) {
	t.Helper()
	l, at, e := lex.Tokens(s)
	if e != api.ErrLex || at != place || len(l) != 0 {
		t.Errorf("%q: %v %v %v, not wrong at %v", s, l, at, e, place)
	}
}

// P7.1: ordinary texts, the chapter's examples among them.
func TestTokens(t *testing.T) {
	isRead(t, "select a.b<=10", word(0, "SELECT"), name(7, "a"), sign(8, "."), name(9, "b"), sign(10, "<="), number(12, 10))
	isRead(t, "'it''s'", text(0, "it's"))
	isRead(t, "SELECT DISTINCT t.a, COUNT(*) FROM t WHERE a_1 <> 'x y' -- 5",
		word(0, "SELECT"), word(7, "DISTINCT"), name(16, "t"), sign(17, "."), name(18, "a"), sign(19, ","), word(21, "COUNT"), sign(26, "("), sign(27, "*"), sign(28, ")"),
		word(30, "FROM"), name(35, "t"), word(37, "WHERE"), name(43, "a_1"), sign(47, "<>"), text(50, "x y"), sign(56, "-"), sign(57, "-"), number(59, 5))
	isRead(t, "a", name(0, "a"))
	isRead(t, "selects selec asc1 as_ a__", name(0, "selects"), name(8, "selec"), name(14, "asc1"), name(19, "as_"), name(23, "a__"))
}

// P7.1: nothing, and blanks alone: those four, and no others.
func TestBlanks(t *testing.T) {
	for _, s := range []string{"", " ", "\t", "\n", "\r", " \t\r\n \n", strings.Repeat(" ", api.MaxSource)} {
		isRead(t, s)
	}
	isRead(t, "\r\n\ta \n b\t", name(3, "a"), name(7, "b"))
	for _, s := range []string{"\v", "\f", "\x00", "\u00a0", "\u2003", "\u0085", "\ufeff"} {
		isWrong(t, s, 0)
		isWrong(t, "a "+s, 2)
		isWrong(t, "a"+s+"b", 1)
	}
}

// P7.1: ErrLong goes ahead of ErrLex, and has no place.
func TestTokensTooLong(t *testing.T) {
	full := strings.Repeat("a ", api.MaxSource/2)
	l, at, e := lex.Tokens(full)
	if e != api.OK || at != 0 || len(l) != api.MaxSource/2 {
		t.Error(len(l), at, e)
	}
	isWrong(t, strings.Repeat(" ", api.MaxSource-1)+"A", api.MaxSource-1)
	for _, s := range []string{full + " ", full + "a", "A" + full, strings.Repeat(" ", api.MaxSource+1), strings.Repeat("'", 1<<20)} {
		if l, at, e := lex.Tokens(s); e != api.ErrLong || at != 0 || len(l) != 0 {
			t.Error(len(s), l, at, e)
		}
	}
}

// P7.1, P7.2, P7.4: each word of the language, in whatever case; what is a word and one letter more is none.
func TestWords(t *testing.T) {
	for _, w := range strings.Fields(language) {
		for _, s := range []string{w, strings.ToLower(w), mixed(w), strings.ToLower(mixed(w)[:1]) + w[1:]} {
			isRead(t, s, word(0, w))
			isRead(t, "("+s+")", sign(0, "("), word(1, w), sign(len(w)+1, ")"))
			if lex.IsName(s) {
				t.Error(s, "is a name")
			}
			if lex.IsWord(s) != (s == w) {
				t.Error(s, lex.IsWord(s))
			}
		}
		isWrong(t, w+"_", 0)
		isWrong(t, "1"+w, 0)
		isWrong(t, "_"+w, 0)
		isRead(t, strings.ToLower(w)+"_", name(0, strings.ToLower(w)+"_"))
	}
	for _, s := range []string{"", "SELEC", "SELECTS", "SELECT ", " SELECT", "ASCDESC", "A", "a", "AVG", "INNER", "BETWEEN", "(", "1", "'AS'", "I\u017f", "\u017fUM"} {
		if lex.IsWord(s) {
			t.Error(s, "is a word")
		}
	}
	isWrong(t, "i\u017f", 1)
}

// P7.1, P7.2: names of 16 bytes and of one more, and what is none.
func TestNames(t *testing.T) {
	long := "abcdefghij_12345"
	for _, s := range []string{"a", "z", "a0", "z9", "a_", "a__9", "azbycx", long, strings.Repeat("z", api.MaxName), "a" + strings.Repeat("_", api.MaxName-1)} {
		if !lex.IsName(s) {
			t.Error(s, "is no name")
		}
		isRead(t, s, name(0, s))
		isRead(t, " "+s+".", name(1, s), sign(len(s)+1, "."))
	}
	for _, s := range []string{long + "a", long + "_", strings.Repeat("z", api.MaxName+1), "A", "aB", "Ab", "abcdE", "1a", "9z", "_", "_a", "__", "Z_", "0x", strings.Repeat("a", 300)} {
		if lex.IsName(s) {
			t.Error(s, "is a name")
		}
		isWrong(t, s, 0)
		isWrong(t, "(1) "+s+" b", 4)
	}
	for _, s := range []string{"", " a", "a ", "a.b", "a-b", "a'", "'a'", "1", "a\x00", "é", "aé", "a\xff", "`", "{", "a`", "a{", "a/", "a:", "a@", "a[", strings.Repeat("a", 1<<20)} {
		if lex.IsName(s) {
			t.Error(s, "is a name")
		}
	}
}

// P7.1: 0, noughts ahead, 2^63 - 1 and one more.
func TestNumbers(t *testing.T) {
	isRead(t, "0", number(0, 0))
	isRead(t, "9 10 0", number(0, 9), number(2, 10), number(5, 0))
	isRead(t, "9223372036854775807", number(0, math.MaxInt64))
	isRead(t, "-9223372036854775807", sign(0, "-"), number(1, math.MaxInt64))
	isRead(t, "1.0", number(0, 1), sign(1, "."), number(2, 0))
	isRead(t, "+5", sign(0, "+"), number(1, 5))
	for _, s := range []string{"00", "01", "007", "9223372036854775808", "18446744073709551615", "18446744073709551616", "18446744073709551617", "99999999999999999999999", "1e5", "0x1", "1_000", "0_", "1a", "0b1", strings.Repeat("0", 40), "00000000000000000009"} {
		isWrong(t, s, 0)
		isWrong(t, "a,"+s, 2)
	}
	isWrong(t, "1.01 1.0", 2)
}

// P7.1: texts of no bytes, of 40 and of one more, with quotes within.
func TestTexts(t *testing.T) {
	forty, quotes := strings.Repeat("x", api.MaxValue), strings.Repeat("'", api.MaxValue)
	isRead(t, "''", text(0, ""))
	isRead(t, "''''", text(0, "'"))
	isRead(t, "''''''", text(0, "''"))
	isRead(t, "'a' 'b'", text(0, "a"), text(4, "b"))
	isRead(t, "'a''b'", text(0, "a'b"))
	isRead(t, "'''a'''", text(0, "'a'"))
	isRead(t, "'SELECT <= 01 A'", text(0, "SELECT <= 01 A"))
	isRead(t, "' ~'", text(0, " ~"))
	isRead(t, "'  '", text(0, "  "))
	isRead(t, "'"+forty+"'", text(0, forty))
	isRead(t, "'"+quotes+quotes+"'", text(0, quotes))
	isRead(t, "'"+forty[1:]+"'''", text(0, forty[1:]+"'"))
	for _, s := range []string{"'" + forty + "x'", "'" + quotes + quotes + "'''", "'" + forty + "'''", "'" + forty + " '"} {
		isWrong(t, s, 0)
		isWrong(t, " 1 "+s+" 2", 3)
	}
	for _, s := range []string{"'", "'''", "'a", "'a''", "'''''", "'a''b", "'a b ", "'" + forty} {
		isWrong(t, s, 0)
		isWrong(t, "'a' "+s, 4)
	}
}

// P7.1: bytes below 32 and above 126, within quotes: the text is wrong at its quote.
func TestBytesWithinQuotes(t *testing.T) {
	for k := range 256 {
		b := string([]byte{byte(k)})
		switch {
		case b == "'":
		case k < 32 || k > 126:
			isWrong(t, "'"+b+"'", 0)
			isWrong(t, "a 'bc"+b+"d' e", 2)
			isWrong(t, "a 'bc' 'd''"+b, 7)
		default:
			isRead(t, "a 'b"+b+"'", name(0, "a"), text(2, "b"+b))
		}
	}
	isWrong(t, "'é'", 0)
	isWrong(t, "'a' '\u2019'", 4)
}

// P7.1: each byte, outside quotes, alone and between tokens.
func TestBytesOutside(t *testing.T) {
	oneByte := strings.Join(strings.Fields(allSigns), "")
	for k := range 256 {
		b := string([]byte{byte(k)})
		switch {
		case strings.Contains(oneByte, b):
			isRead(t, "1"+b+"2", number(0, 1), sign(1, b), number(2, 2))
		case strings.Contains(" \t\r\n", b):
			isRead(t, "1"+b+"2", number(0, 1), number(2, 2))
		case k >= '0' && k <= '9':
			isRead(t, "1"+b+"2", number(0, uint64(102+10*(k-'0'))))
		case k >= 'a' && k <= 'z':
			isRead(t, b, name(0, b))
			isWrong(t, "1"+b+"2", 0)
		case k >= 'A' && k <= 'Z' || b == "_":
			isWrong(t, "1"+b+"2", 0)
			isWrong(t, " "+b, 1)
		case b == "'":
			isWrong(t, "1"+b+"2", 1)
		default:
			isWrong(t, b, 0)
			isWrong(t, "1"+b+"2", 1)
			isWrong(t, "abc "+b+b, 4)
			isWrong(t, "abc<"+b, 4)
		}
	}
	isWrong(t, "a é b", 2)
	isWrong(t, "aé", 1)
	isWrong(t, "'a'\xff\xfe", 3)
	isWrong(t, "\xc3", 0)
	isWrong(t, "\ufffd", 0)
}

// P7.1: each sign, the longest one first.
func TestSigns(t *testing.T) {
	for _, s := range strings.Fields(allSigns) {
		isRead(t, s, sign(0, s))
		isRead(t, "a"+s+"b", name(0, "a"), sign(1, s), name(1+len(s), "b"))
		isRead(t, s+" "+s, sign(0, s), sign(1+len(s), s))
	}
	isRead(t, "<>=", sign(0, "<>"), sign(2, "="))
	isRead(t, "<=>", sign(0, "<="), sign(2, ">"))
	isRead(t, "<<=", sign(0, "<"), sign(1, "<="))
	isRead(t, ">>=", sign(0, ">"), sign(1, ">="))
	isRead(t, "><", sign(0, ">"), sign(1, "<"))
	isRead(t, ">=<", sign(0, ">="), sign(2, "<"))
	isRead(t, "==", sign(0, "="), sign(1, "="))
	isRead(t, "=<", sign(0, "="), sign(1, "<"))
	isRead(t, "=>", sign(0, "="), sign(1, ">"))
	isRead(t, "< >", sign(0, "<"), sign(2, ">"))
	isRead(t, "< = > =", sign(0, "<"), sign(2, "="), sign(4, ">"), sign(6, "="))
	isWrong(t, "a != b", 2)
	isWrong(t, "<!=", 1)
	isWrong(t, "a;", 1)
	isWrong(t, `"a"`, 0)
}

// P7.1, P7.4: what stands together is one token, if it is letters, digits and _; else blanks may stand between, or not.
func TestTogether(t *testing.T) {
	isRead(t, "a1 a 1", name(0, "a1"), name(3, "a"), number(5, 1))
	isRead(t, "selecta select a", name(0, "selecta"), word(8, "SELECT"), name(15, "a"))
	isRead(t, "'a'b'c'1'd'", text(0, "a"), name(3, "b"), text(4, "c"), number(7, 1), text(8, "d"))
	isRead(t, "SELECT'a'FROM", word(0, "SELECT"), text(6, "a"), word(9, "FROM"))
	isRead(t, "((a))", sign(0, "("), sign(1, "("), name(2, "a"), sign(3, ")"), sign(4, ")"))
	isWrong(t, "1select", 0)
	isWrong(t, "a 10b", 2)
	isWrong(t, "SELECTa", 0)
	isWrong(t, "SELECT aB", 7)
	isWrong(t, "a Bc", 2)
	isWrong(t, "01", 0)
	isWrong(t, "a 'b)", 2)
	isWrong(t, "1 B 'c", 2)
}

// rows is what a part of a text is: a text that does not end goes ahead of one that does, for of two quotes none ends it.
var rows = regexp.MustCompile(`^(?:[ \t\r\n]+|[A-Za-z0-9_]+|'(?:[^']|'')*$|'(?:[^']|'')*'|<>|<=|>=|[-(),.*+/=<>])`)
var names = regexp.MustCompile(`^[a-z][a-z0-9_]{0,15}$`)
var numbers = regexp.MustCompile(`^(?:0|[1-9][0-9]*)$`)
var texts = regexp.MustCompile(`^'(?:[ -&(-~]|'')*'$`)

// oneByRule is the token that a part of a text is, reckoned by the chapter's table.
func oneByRule(part string) (api.Token, bool) {
	capital := strings.ToUpper(part)
	n, err := strconv.ParseUint(part, 10, 63)
	switch {
	case slices.Contains(strings.Fields(language), capital):
		return word(0, capital), true
	case names.MatchString(part):
		return name(0, part), true
	case numbers.MatchString(part):
		return number(0, n), err == nil
	case texts.MatchString(part):
		s := strings.ReplaceAll(part[1:len(part)-1], "''", "'")
		return text(0, s), len(s) <= 40
	}
	return sign(0, part), slices.Contains(strings.Fields(allSigns), part)
}

// byRule reads a text part by part: its tokens, or the place at which it is wrong, else -1.
func byRule(s string) ([]api.Token, int) {
	var l []api.Token
	for at := 0; at < len(s); {
		part := rows.FindString(s[at:])
		if strings.Trim(part, " \t\r\n") != "" {
			tok, ok := oneByRule(part)
			if !ok {
				return nil, at
			}
			tok.At = at
			l = append(l, tok)
		}
		if part == "" {
			return nil, at
		}
		at += len(part)
	}
	return l, -1
}

// pieces is what texts are put together of: ordinary parts, and those that are wrong.
func pieces() []string {
	return []string{"a", "b_1", "SELECT", "from", "Max", "0", "10", "01", "9223372036854775807", "9223372036854775808", "'x'", "''", "'", "'it''s'", "'\t'", "<", ">", "=", "<=", ".", ",", "(", "-", " ", "\n", "  ", "A", "_", "!", "é", "abcdefghijklmnop", strings.Repeat("y", 41)}
}

// P7.1, P7.4: texts of up to three pieces, and longer ones, held against the reckoning by regular expressions.
func TestTokensByRule(t *testing.T) {
	held := func(s string) {
		want, place := byRule(s)
		if place >= 0 {
			isWrong(t, s, place)
			return
		}
		isRead(t, s, want...)
	}
	all := pieces()
	for _, a := range all {
		for _, b := range all {
			held(a + b)
			for _, c := range all {
				held(a + b + c)
			}
		}
	}
	state := uint32(1)
	for range 20000 {
		var s string
		for range 8 {
			state = state*1664525 + 1013904223
			s += all[int(state>>16)%len(all)]
		}
		held(s)
	}
}

// P7.2: what may be a token, of each kind, and what may not.
func TestCheck(t *testing.T) {
	may := []api.Token{
		word(0, "SELECT"), word(math.MaxInt, "MAX"), name(0, "a"), name(7, "abcdefghijklmnop"), number(0, 0), number(600, math.MaxInt64),
		text(0, ""), text(0, "'"), text(0, strings.Repeat("'", 40)), text(1, " ~"), text(0, "SELECT"), text(0, "A"), text(0, "<>"), text(0, "01"),
	}
	for _, s := range strings.Fields(allSigns) {
		may = append(may, sign(3, s))
	}
	for _, s := range strings.Fields(language) {
		may = append(may, word(3, s))
	}
	for _, tok := range may {
		if e := lex.Check(tok); e != api.OK {
			t.Error(tok, e)
		}
		for _, wrong := range spoiled(tok) {
			if e := lex.Check(wrong); e != api.ErrToken {
				t.Error(wrong, e)
			}
		}
	}
	for _, wrong := range wrongTokens() {
		if e := lex.Check(wrong); e != api.ErrToken {
			t.Error(wrong, e)
		}
	}
}

// spoiled is a token that may be, but for one field each.
func spoiled(tok api.Token) []api.Token {
	below, far, none, great, number := tok, tok, tok, tok, tok
	below.At, far.At = -1, math.MinInt
	none.Kind, great.Kind = 0, 6
	number.N = 1
	if tok.Kind == api.TkNumber {
		number.Text = "1"
	}
	return []api.Token{below, far, none, great, number}
}

func wrongTokens() []api.Token {
	l := []api.Token{
		{}, {Kind: -1, Text: "a"}, {Kind: math.MaxInt}, {Kind: math.MinInt},
		number(0, math.MaxInt64+1), number(0, math.MaxUint64), {Kind: api.TkNumber, Text: "5"}, {Kind: api.TkNumber, Text: "5", N: 5},
		text(0, strings.Repeat("a", 41)), text(0, strings.Repeat("a", 1<<20)),
	}
	for _, s := range []string{"", "select", "Select", "a", "SELECTS", "1", "=", "SELECT "} {
		l = append(l, word(0, s))
	}
	for _, s := range []string{"", "A", "select", "Select", "SELECT", "1", "1a", "_a", "aB", "a b", "abcdefghijklmnopq", "'a'", "=", "é", "a\x00"} {
		l = append(l, name(0, s))
	}
	for _, s := range []string{"\x1f", "\x7f", "\x00", "\n", "a\tb", "é", "\xff", "a\x80"} {
		l = append(l, text(0, s))
	}
	for _, s := range []string{"", "<<", "==", "<>=", "!=", "!", "'", "()", " =", "= ", "a", "SELECT", "<=>", "\x00", "_", ";", "%"} {
		l = append(l, sign(0, s))
	}
	return l
}

// P7.3: each token as it is written, one blank between each two.
func TestPrint(t *testing.T) {
	for _, x := range []struct {
		l    []api.Token
		want string
	}{
		{nil, ""}, {[]api.Token{}, ""},
		{[]api.Token{word(0, "SELECT"), sign(0, "*"), text(0, "it's")}, "SELECT * 'it''s'"},
		{[]api.Token{name(900, "a")}, "a"}, {[]api.Token{text(0, "")}, "''"}, {[]api.Token{text(3, "'")}, "''''"}, {[]api.Token{text(3, "''")}, "''''''"},
		{[]api.Token{number(0, 0), number(0, math.MaxInt64), number(0, 10)}, "0 9223372036854775807 10"},
		{[]api.Token{sign(5, "<"), sign(4, ">"), sign(3, "="), sign(2, "<=")}, "< > = <="},
		{[]api.Token{text(0, "a"), text(0, "b"), name(math.MaxInt, "c")}, "'a' 'b' c"},
	} {
		if s, e := lex.Print(x.l); e != api.OK || s != x.want {
			t.Errorf("%v: %q %v", x.l, s, e)
		}
	}
}

// P7.3: one that may not be, at whatever place, and nothing is laid.
func TestPrintRefuses(t *testing.T) {
	good := word(0, "SELECT")
	wrong := append(wrongTokens(), spoiled(good)...)
	for _, w := range wrong {
		for _, l := range [][]api.Token{{w}, {w, good}, {good, w}, {good, w, good}} {
			if s, e := lex.Print(l); e != api.ErrToken || s != "" {
				t.Errorf("%v: %q %v", l, s, e)
			}
		}
	}
}

// P7.3: what is laid may be longer than what may be read again.
func TestPrintTooLong(t *testing.T) {
	one := text(0, strings.Repeat("'", api.MaxValue))
	l := slices.Repeat([]api.Token{one}, 8)
	s, e := lex.Print(l)
	if want := strings.TrimSpace(strings.Repeat(strings.Repeat("'", 82)+" ", 8)); e != api.OK || s != want {
		t.Errorf("%q %v", s, e)
	}
	if got, at, e := lex.Tokens(s); e != api.ErrLong || at != 0 || len(got) != 0 {
		t.Error(got, at, e)
	}
	fits := slices.Repeat([]api.Token{sign(0, "<>")}, 200)
	if s, e := lex.Print(fits); e != api.OK || len(s) != 599 {
		t.Error(len(s), e)
	} else if got, _, e := lex.Tokens(s); e != api.OK || !lex.Same(got, fits) {
		t.Error(got, e)
	}
}

// P7.3: the same but for Ats, in whatever field else they are apart.
func TestSame(t *testing.T) {
	a := []api.Token{word(0, "SELECT"), name(7, "a"), number(9, 5)}
	if b := []api.Token{word(3, "SELECT"), name(-7, "a"), number(0, 5)}; !lex.Same(a, b) || !lex.Same(b, a) || !lex.Same(a, a) {
		t.Error(a, b)
	}
	if !lex.Same(nil, nil) || !lex.Same(nil, []api.Token{}) || !lex.Same([]api.Token{}, nil) {
		t.Error("nothing is not nothing")
	}
	for _, b := range [][]api.Token{
		nil, a[:2], a[1:], append(slices.Clone(a), number(11, 0)), {a[1], a[0], a[2]},
		{word(0, "FROM"), a[1], a[2]}, {a[0], text(7, "a"), a[2]}, {a[0], a[1], number(9, 6)}, {a[0], a[1], {}}, {a[0], a[1], {Kind: api.TkNumber, At: 9, N: 5, Text: "5"}},
	} {
		if lex.Same(a, b) || lex.Same(b, a) {
			t.Error(a, b)
		}
	}
	if odd := []api.Token{{Kind: 9, N: 1}}; !lex.Same(odd, []api.Token{{Kind: 9, N: 1, At: -5}}) {
		t.Error("the same tokens that may not be are apart")
	}
}

// some are texts that are not wrong.
func some() []string {
	return []string{"", "select a.b<=10", "'it''s'", "a 'b'c", "1<2>=3<>4", "select t.a,count(*) from t left join u on t.a=u.b where not a is null", "''''''''", "x'y'z''''", "(((1)))", "0 00"[:3], "- -1 9223372036854775807"}
}

// P7.4: tokens of what Print lays are the tokens.
func TestPrintedIsReadAgain(t *testing.T) {
	l := some()
	for _, s := range strings.Fields(allSigns) {
		for _, r := range strings.Fields(allSigns) {
			l = append(l, s+" "+r, s+r)
		}
	}
	for _, s := range l {
		first, _, e := lex.Tokens(s)
		if e != api.OK {
			t.Errorf("%q %v", s, e)
		}
		laid, e := lex.Print(first)
		again, at, f := lex.Tokens(laid)
		if e != api.OK || f != api.OK || at != 0 || !lex.Same(first, again) {
			t.Errorf("%q %q %v %v %v %v", s, laid, first, again, e, f)
		}
		if twice, _ := lex.Print(again); twice != laid {
			t.Errorf("%q %q", laid, twice)
		}
	}
}

// P7.4: Ats rise, and blanks more between tokens change nothing else.
func TestBlanksMore(t *testing.T) {
	for _, s := range some() {
		l, _, _ := lex.Tokens(s)
		wide, end := "", 0
		for k, tok := range l {
			if k > 0 && tok.At <= l[k-1].At {
				t.Errorf("%q: %v", s, l)
			}
			if end < tok.At {
				wide += s[end:tok.At] + " \t\r\n"
				end = tok.At
			}
		}
		wide += s[end:] + " \n"
		again, at, e := lex.Tokens("\n " + wide)
		if e != api.OK || at != 0 || !lex.Same(l, again) {
			t.Errorf("%q %q: %v %v %v", s, wide, again, at, e)
		}
	}
}

// P7.4: what stands behind what is wrong changes nothing.
func TestWrongWhateverStandsBehind(t *testing.T) {
	for _, wrong := range []string{"A", "aB", "1a", "_", "01", "!", "é", "\x00", "'\n'", "'" + strings.Repeat("b", 41) + "'"} {
		for _, ahead := range []string{"", " ", "a ", "select 'a'", "(1)<="} {
			if !strings.HasPrefix(wrong, "'") || !strings.HasSuffix(ahead, "'") {
				for _, behind := range []string{"", " ", " b", " B", " '", ",a", "!", "\xff", "(", " 01", " select 'a'"} {
					isWrong(t, ahead+wrong+behind, len(ahead))
				}
			}
		}
	}
}

// R3: what is handed in stays as it is.
func TestPrintChangesNothing(t *testing.T) {
	l := []api.Token{word(5, "SELECT"), text(9, "it's"), number(3, 4)}
	kept := slices.Clone(l)
	lex.Print(l)
	lex.Same(l, l)
	if !slices.Equal(l, kept) {
		t.Error(l)
	}
	a, _, _ := lex.Tokens("a b")
	a[0] = number(0, 1)
	if b, _, _ := lex.Tokens("a b"); b[0] != name(0, "a") {
		t.Error(b)
	}
}
