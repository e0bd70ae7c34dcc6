package value_test

import (
	"strings"
	"testing"

	"bowsprit/api"
	"bowsprit/value"
)

// written is a value and its literal.
type written struct {
	v api.Value
	s string
}

func literals() []written {
	long := strings.Repeat("a", api.MaxText)
	return []written{
		{null, "NULL"}, {no, "FALSE"}, {yes, "TRUE"},
		{number(0), "0"}, {number(7), "7"}, {number(-7), "-7"}, {number(10), "10"}, {number(-100), "-100"}, {number(1234567890), "1234567890"},
		{number(9223372036854775807), "9223372036854775807"}, {number(-9223372036854775808), "-9223372036854775808"},
		{text(""), "''"}, {text("a"), "'a'"}, {text("it's"), "'it''s'"}, {text("'"), "''''"}, {text("''"), "''''''"}, {text("'a"), "'''a'"}, {text("a'"), "'a'''"}, {text("a''b"), "'a''''b'"},
		{text("NULL"), "'NULL'"}, {text("-7"), "'-7'"}, {text(" "), "' '"}, {text("\n"), "'\n'"}, {text("\x00"), "'\x00'"}, {text("\xff\xfe"), "'\xff\xfe'"}, {text("é"), "'é'"}, {text(`"\`), `'"\'`},
		{text(long), "'" + long + "'"}, {text(strings.Repeat("'", api.MaxText)), "'" + strings.Repeat("''", api.MaxText) + "'"},
	}
}

// P2.5: literals that are written out here, one by one, there and back.
func TestPrintAndParse(t *testing.T) {
	for _, c := range literals() {
		if s, e := value.Print(c.v); s != c.s || e != api.OK {
			t.Errorf("Print(%v): %q, %d, not %q", c.v, s, e, c.s)
		}
		if v, e := value.Parse(c.s); v != c.v || e != api.OK {
			t.Errorf("Parse(%q): %v, %d, not %v", c.s, v, e, c.v)
		}
	}
}

// P2.5: what may not be: ErrValue; what may be, but is not plain: ErrArg.
func TestPrintWrong(t *testing.T) {
	for _, v := range wrong() {
		if s, e := value.Print(v); s != "" || e != api.ErrValue {
			t.Errorf("Print(%v): %q, %d", v, s, e)
		}
	}
	for _, v := range sums() {
		if s, e := value.Print(v); s != "" || e != api.ErrArg {
			t.Errorf("Print(%v): %q, %d", v, s, e)
		}
	}
}

// P2.5: what is no literal, though it is near to one.
func TestParseWrong(t *testing.T) {
	long := strings.Repeat("a", api.MaxText+1)
	cases := []string{
		"", " ", "null", "true", "True", "FALSe", "nULL", "NULL ", " NULL", "NUL", "NULLS", "TRUEFALSE", "TRUE\n",
		"07", "00", "-0", "-00", "-07", "+7", "+0", "-", "--7", "- 7", " 7", "7 ", "7\n", "7a", "a7", "a", "0x7", "0b1", "1_000", "7.", "7.0", "1e3", "١",
		"9223372036854775808", "-9223372036854775809", "18446744073709551615", "18446744073709551616", "99999999999999999999999", "-99999999999999999999999", strings.Repeat("9", api.MaxLiteral),
		"'", "'a", "a'", "'''", "'''''", "'a'b'", "'a''", "'a'b", "'a' ", " 'a'", "'a''b", "''a'", "''a", "'a'''''b", "'' ''", "\"a\"", "`a`", "'a''' '",
		"'" + long + "'", "'" + long, "'" + strings.Repeat("''", api.MaxText+1) + "'", "'" + strings.Repeat("''", api.MaxText) + "a'", "'" + strings.Repeat("a", api.MaxLiteral-2) + "'", strings.Repeat(" ", api.MaxLiteral), strings.Repeat("'", api.MaxLiteral),
	}
	for _, s := range cases {
		if v, e := value.Parse(s); v != null || e != api.ErrArg {
			t.Errorf("Parse(%q): %v, %d", s, v, e)
		}
	}
}

// P2.5: one byte more than MaxLiteral is too long, whatever the bytes are.
func TestParseTooLong(t *testing.T) {
	for _, c := range []string{"0", "9", "'", "a", " ", "\x00", "é"} {
		s := strings.Repeat(c, api.MaxLiteral+1)[:api.MaxLiteral+1]
		if v, e := value.Parse(s); v != null || e != api.ErrLong {
			t.Errorf("Parse of %d bytes %q: %v, %d", len(s), c, v, e)
		}
		if v, e := value.Parse(s[:api.MaxLiteral]); v != null || e != api.ErrArg {
			t.Errorf("Parse of %d bytes %q: %v, %d", api.MaxLiteral, c, v, e)
		}
	}
	if _, e := value.Parse("'" + strings.Repeat("a", api.MaxLiteral-1) + "'"); e != api.ErrLong {
		t.Errorf("Parse of a text that is too long, as a literal too: %d", e)
	}
}

// P2.6: Parse of Print is the value.
func TestParseOfPrint(t *testing.T) {
	for _, v := range plains() {
		s, e := value.Print(v)
		if got, f := value.Parse(s); got != v || e != api.OK || f != api.OK {
			t.Errorf("%v: printed %q, %d; parsed %v, %d", v, s, e, got, f)
		}
	}
	for c := range 256 {
		v := text("a" + string([]byte{byte(c)}))
		s, _ := value.Print(v)
		if got, e := value.Parse(s); got != v || e != api.OK {
			t.Errorf("the byte %d: printed %q; parsed %v, %d", c, s, got, e)
		}
	}
}

// P2.6: Print of Parse is the literal: of all short texts of such bytes, each one is refused, or it is what is printed.
func TestPrintOfParse(t *testing.T) {
	const bytes = "'-+012a \n"
	short := []string{""}
	read := 0
	for from, size := 0, 0; size < 5; size++ {
		to := len(short)
		for _, s := range short[from:to] {
			for k := range len(bytes) {
				short = append(short, s+bytes[k:k+1])
			}
		}
		from = to
	}
	for _, s := range short {
		v, e := value.Parse(s)
		if e == api.ErrArg && v == null {
			continue
		}
		read++
		if got, f := value.Print(v); got != s || e != api.OK || f != api.OK {
			t.Errorf("Parse(%q): %v, %d; printed %q, %d", s, v, e, got, f)
		}
	}
	if want := expectedLiterals(short); read != want {
		t.Errorf("%d literals among %d texts, not %d", read, len(short), want)
	}
}

// expectedLiterals counts the literals by another reckoning than the program's.
func expectedLiterals(l []string) int {
	n := 0
	for _, s := range l {
		digits := strings.TrimPrefix(s, "-")
		isNumber := s == "0" || digits != "" && digits[0] != '0' && strings.Trim(digits, "0123456789") == ""
		isText := len(s) > 1 && s[0] == '\'' && s[len(s)-1] == '\'' && !strings.Contains(strings.ReplaceAll(s[1:len(s)-1], "''", ""), "'")
		if isNumber || isText {
			n++
		}
	}
	return n
}

// The chapter's examples, those of literals.
func TestLiteralExamples(t *testing.T) {
	if s, e := value.Print(number(-7)); s != "-7" || e != api.OK {
		t.Errorf("Print(-7): %q, %d", s, e)
	}
	if s, e := value.Print(text("it's")); s != "'it''s'" || e != api.OK {
		t.Errorf("Print(it's): %q, %d", s, e)
	}
	if v, e := value.Parse("'it''s'"); v != text("it's") || e != api.OK {
		t.Errorf("Parse('it''s'): %v, %d", v, e)
	}
	for _, s := range []string{"07", "true"} {
		if v, e := value.Parse(s); v != null || e != api.ErrArg {
			t.Errorf("Parse(%s): %v, %d", s, v, e)
		}
	}
}
