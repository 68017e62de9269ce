package lex

import (
	"strings"

	"quire/api"
)

const (
	quote  = '"'
	escape = '\\'
)

// readString answers the string whose " stands at at and the place behind it, or the place of its fault.
func readString(s string, at int) (token api.Token, place int, e api.Errno) {
	var text strings.Builder
	escaped := false
	first := at + 1
	for i, c := range s[first:] {
		switch {
		case escaped:
			meant, ok := unescape(c)
			if !ok {
				return api.Token{}, first + i - 1, api.ErrText
			}
			text.WriteRune(meant)
			escaped = false
		case c == escape:
			escaped = true
		case c == quote:
			if text.Len() > api.MaxStr {
				return api.Token{}, at, api.ErrLarge
			}
			return api.Token{Kind: api.TStr, Text: text.String(), At: at}, first + i + 1, api.OK
		default:
			text.WriteRune(c)
		}
	}
	// A \ that ends the text has nothing to stand for, and is at fault ahead of its string.
	if escaped {
		at = len(s) - 1
	}
	return api.Token{}, at, api.ErrText
}

// unescape answers the character for which a \ and c stand.
func unescape(c rune) (meant rune, ok bool) {
	switch c {
	case 'n':
		return '\n', true
	case quote, escape:
		return c, true
	}
	return 0, false
}

// Quoted answers a string's token that stands for s.
func Quoted(s string) (string, api.Errno) {
	if stray(s) < len(s) {
		return "", api.ErrUtf8
	}
	if len(s) > api.MaxStr {
		return "", api.ErrLarge
	}
	var token strings.Builder
	token.WriteRune(quote)
	for _, c := range s {
		switch c {
		case '\n':
			token.WriteString(`\n`)
		case quote, escape:
			token.WriteRune(escape)
			token.WriteRune(c)
		default:
			token.WriteRune(c)
		}
	}
	token.WriteRune(quote)
	return token.String(), api.OK
}
