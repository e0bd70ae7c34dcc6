package lex

import (
	"iter"
	"strconv"
	"strings"

	"bowsprit/api"
)

// Tokens: P7.1.
func Tokens(text string) ([]api.Token, int, api.Errno) {
	if len(text) > api.MaxSource {
		return nil, 0, api.ErrLong
	}
	var l []api.Token
	for t, ok := range told(text) {
		if !ok {
			return nil, t.At, api.ErrLex
		}
		l = append(l, t)
	}
	return l, 0, api.OK
}

// told tells a text's tokens in turn. Where none begins it tells false, beside a token of which just At counts, and ends.
func told(text string) iter.Seq2[api.Token, bool] {
	return func(yield func(api.Token, bool) bool) {
		end, isBlank := 0, class(blanks)
	reading:
		for at, r := range text {
			switch {
			case at < end || isBlank(r):
			default:
				t, n := first(text[at:])
				t.At = at
				if !yield(t, n > 0) || n == 0 {
					break reading
				}
				end = at + n
			}
		}
	}
}

// first is the token that s begins with, and how many bytes of s it takes: 0 if there is none.
func first(s string) (api.Token, int) {
	if n := ahead(s, class(smalls, capitals, digits, lowLine)); n > 0 {
		return together(s[:n])
	}
	if strings.HasPrefix(s, quote) {
		return quoted(s)
	}
	sign := signOf(s)
	return api.Token{Kind: api.TkSign, Text: sign}, len(sign)
}

// together is the token that letters, digits and _ are that stand together: all of them, or there is none.
func together(s string) (api.Token, int) {
	if IsName(s) {
		return api.Token{Kind: api.TkName, Text: s}, len(s)
	}
	if w := strings.ToUpper(s); IsWord(w) {
		return api.Token{Kind: api.TkWord, Text: w}, len(s)
	}
	// A number with noughts ahead is one to strconv.
	if n, err := strconv.ParseInt(s, 10, 64); err == nil && strconv.FormatInt(n, 10) == s {
		return api.Token{Kind: api.TkNumber, N: uint64(n)}, len(s)
	}
	return api.Token{}, 0
}

// quoted is the text that s, which begins with a quote, begins with. Of two quotes within it the first one counts as a byte.
func quoted(s string) (api.Token, int) {
	var text []byte
	for k := len(quote); k < len(s); k++ {
		if s[k] == quote[0] {
			k++
			if k == len(s) || s[k] != quote[0] {
				return ended(string(text), k)
			}
		}
		text = append(text, s[k])
	}
	return api.Token{}, 0
}

// ended is a text that took n bytes, if it may be.
func ended(text string, n int) (api.Token, int) {
	if !isText(text) {
		return api.Token{}, 0
	}
	return api.Token{Kind: api.TkText, Text: text}, n
}
