package lex

import (
	"strings"
	"unicode/utf8"

	"quire/api"
)

const (
	hyphen = "-"
	minus  = "\u2212"

	lastControl = 0x1F
	del         = 0x7F
)

// noughts holds the digit 0 of each script; its other digits stand behind it in order.
var noughts = [...]rune{'0', 0x660, 0xFF10}

// Name answers whether s is a name and no number.
func Name(s string) bool {
	_, e := Number(s)
	return e == api.ErrText && named(s)
}

// named answers whether s is a name, be it a number or not. Bytes that belong to no character need no look of their own: a range tells them as FFFD, which no name has.
func named(s string) bool {
	if s == remark || strings.HasPrefix(s, string(quote)) {
		return false
	}
	count := 0
	for _, c := range s {
		count++
		if count > api.MaxName || !ofName(c) {
			return false
		}
	}
	return count > 0
}

func ofName(c rune) bool {
	return !blank(c) && c > lastControl && c != del && c != utf8.RuneError
}

func blank(c rune) bool {
	switch c {
	case '\t', '\n', '\r', ' ', 0xA0, 0x3000:
		return true
	}
	return false
}

// Number answers the number that the word s is.
func Number(s string) (int64, api.Errno) {
	digits, below := unsigned(s)
	size, ok := natural(digits)
	switch {
	case !ok:
		return 0, api.ErrText
	case below && size <= -api.MinInt:
		return -int64(size), api.OK
	case !below && size <= api.MaxInt:
		return int64(size), api.OK
	}
	return 0, api.ErrLarge
}

// unsigned cuts the sign off, if there is one.
func unsigned(s string) (digits string, below bool) {
	if digits, below = strings.CutPrefix(s, hyphen); below {
		return digits, true
	}
	return strings.CutPrefix(s, minus)
}

// natural answers the number of which s has the digits, all of one script. Beyond all that fit it stays as it is, so that any number of digits is read without wrapping round.
func natural(s string) (n uint64, ok bool) {
	var nought rune
	for _, c := range s {
		if !ok {
			nought, ok = script(c)
		}
		if !ok || !inScript(c, nought) {
			return 0, false
		}
		if n <= -api.MinInt {
			n = n*10 + uint64(c-nought)
		}
	}
	return n, ok
}

// script answers the digit 0 of the script of which c is a digit.
func script(c rune) (nought rune, ok bool) {
	for _, nought := range noughts {
		if inScript(c, nought) {
			return nought, true
		}
	}
	return 0, false
}

func inScript(c, nought rune) bool { return nought <= c && c <= nought+9 }
