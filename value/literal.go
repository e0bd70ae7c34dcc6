package value

import (
	"strconv"
	"strings"

	"bowsprit/api"
)

// The literals that are words, and what stands around a text, and twice within it.
const (
	wordNull  = "NULL"
	wordFalse = "FALSE"
	wordTrue  = "TRUE"
	quote     = "'"
)

// Print: P2.5.
func Print(v api.Value) (string, api.Errno) {
	if e := refused(Plain, v); e != api.OK {
		return "", e
	}
	return literal(v), api.OK
}

// literal is that of a plain value.
func literal(v api.Value) string {
	switch v.Kind {
	case api.VBool:
		if True(v) {
			return wordTrue
		}
		return wordFalse
	case api.VInt:
		return strconv.FormatInt(v.N, 10)
	case api.VText:
		return quote + strings.ReplaceAll(v.S, quote, quote+quote) + quote
	}
	return wordNull
}

// Parse: P2.5.
func Parse(s string) (api.Value, api.Errno) {
	if len(s) > api.MaxLiteral {
		return api.Value{}, api.ErrLong
	}
	v, ok := read(s)
	if !ok {
		return api.Value{}, api.ErrArg
	}
	return v, api.OK
}

// read goes by what a literal begins with: a text's alone begins with a quote.
func read(s string) (api.Value, bool) {
	switch s {
	case wordNull:
		return Null(), true
	case wordFalse:
		return Bool(false), true
	case wordTrue:
		return Bool(true), true
	}
	if strings.HasPrefix(s, quote) {
		return readText(s[len(quote):])
	}
	return readNumber(s)
}

// readNumber refuses what is a number to strconv, but not as it is written here: a plus, noughts ahead, a minus of 0.
func readNumber(s string) (api.Value, bool) {
	n, err := strconv.ParseInt(s, 10, 64)
	if err != nil || strconv.FormatInt(n, 10) != s {
		return api.Value{}, false
	}
	return Int(n), true
}

// readText is handed what stands behind the first quote. The one that ends the text must be the last byte; two quotes are one of the text.
func readText(s string) (api.Value, bool) {
	var text []byte
	ended := false
reading:
	for k := 0; k < len(s); k++ {
		switch {
		case s[k] != quote[0]:
		case k == len(s)-1:
			ended = true
			break reading
		case s[k+1] != quote[0]:
			break reading
		default:
			k++
		}
		text = append(text, s[k])
	}
	if !ended || len(text) > api.MaxText {
		return api.Value{}, false
	}
	return textOf(string(text)), true
}
