package lex_test

import (
	"math/big"
	"math/rand"
	"regexp"
	"slices"
	"strings"
	"testing"
	"unicode/utf8"

	"quire/api"
	"quire/lex"
)

// The model tells tokens by patterns, each at the beginning of what is left of a source.
var (
	left    = regexp.MustCompile(`\A(?:[\t\n\r \x{A0}\x{3000}]|!(?:[\t\r \x{A0}\x{3000}][^\n]*|\n|\z))+`)
	whole   = regexp.MustCompile(`\A"((?:[^"\\]|\\[n"\\])*)"`)
	slashed = regexp.MustCompile(`\A("(?:[^"\\]|\\[n"\\])*)\\(?:[^n"\\]|\z)`)
	plain   = regexp.MustCompile(`\A[^\t\n\r \x{A0}\x{3000}]+`)
	digits  = regexp.MustCompile(`\A[-\x{2212}]?(?:[0-9]+|[\x{660}-\x{669}]+|[\x{FF10}-\x{FF19}]+)\z`)
	name    = regexp.MustCompile(`\A(?:[^\x00-\x20\x7F\x{A0}\x{3000}\x{FFFD}"!]|![^\x00-\x20\x7F\x{A0}\x{3000}\x{FFFD}])[^\x00-\x20\x7F\x{A0}\x{3000}\x{FFFD}]*\z`)
)

var meant = strings.NewReplacer(`\n`, "\n", `\"`, `"`, `\\`, `\`)
var decimal = strings.NewReplacer("−", "-", "٠", "0", "١", "1", "٢", "2", "٣", "3", "٤", "4", "٥", "5", "٦", "6", "٧", "7", "٨", "8", "٩", "9",
	"０", "0", "１", "1", "２", "2", "３", "3", "４", "4", "５", "5", "６", "6", "７", "7", "８", "8", "９", "9")

func modelNumber(s string) (int64, api.Errno) {
	if !digits.MatchString(s) {
		return 0, api.ErrText
	}
	n, ok := new(big.Int).SetString(decimal.Replace(s), 10)
	if !ok {
		panic(s)
	}
	if n.Cmp(big.NewInt(api.MinInt)) < 0 || n.Cmp(big.NewInt(api.MaxInt)) > 0 {
		return 0, api.ErrLarge
	}
	return n.Int64(), api.OK
}

func modelName(s string) bool {
	return utf8.ValidString(s) && utf8.RuneCountInString(s) <= api.MaxName && name.MatchString(s) && !digits.MatchString(s)
}

// modelToken is the token at the beginning of s, how many bytes it has, and where in s its fault is.
func modelToken(s string) (token api.Token, size, fault int, e api.Errno) {
	if strings.HasPrefix(s, `"`) {
		if m := whole.FindStringSubmatch(s); m != nil {
			text := meant.Replace(m[1])
			if len(text) > api.MaxStr {
				return api.Token{}, 0, 0, api.ErrLarge
			}
			return str(0, text), len(m[0]), 0, api.OK
		}
		if m := slashed.FindStringSubmatch(s); m != nil {
			return api.Token{}, 0, len(m[1]), api.ErrText
		}
		return api.Token{}, 0, 0, api.ErrText
	}
	w := plain.FindString(s)
	n, e := modelNumber(w)
	switch {
	case e == api.OK:
		return number(0, n), len(w), 0, api.OK
	case e == api.ErrLarge:
		return api.Token{}, 0, 0, api.ErrLarge
	case !modelName(w):
		return api.Token{}, 0, 0, api.ErrName
	}
	return word(0, w), len(w), 0, api.OK
}

func modelTokens(s string) ([]api.Token, int, api.Errno) {
	if len(s) > api.MaxText {
		return nil, 0, api.ErrLarge
	}
	for at := 0; at < len(s); {
		c, size := utf8.DecodeRuneInString(s[at:])
		if c == utf8.RuneError && size == 1 {
			return nil, at, api.ErrUtf8
		}
		at += size
	}
	var list []api.Token
	at := len(left.FindString(s))
	for at < len(s) {
		token, size, fault, e := modelToken(s[at:])
		if e != api.OK {
			return nil, at + fault, e
		}
		if len(list) == api.MaxItems {
			return nil, at, api.ErrLarge
		}
		token.At = at
		list = append(list, token)
		at += size
		at += len(left.FindString(s[at:]))
	}
	return list, 0, api.OK
}

// agrees holds all calls against the model. It tells the first differences only.
func agrees(t *testing.T, s string) {
	t.Helper()
	list, at, e := lex.Tokens(s)
	wantList, wantAt, want := modelTokens(s)
	if !slices.Equal(list, wantList) || at != wantAt || e != want {
		t.Fatalf("Tokens(%q): %v, %d, %d, want %v, %d, %d", s, list, at, e, wantList, wantAt, want)
	}
	if lex.Name(s) != modelName(s) {
		t.Fatalf("Name(%q): %t", s, lex.Name(s))
	}
	n, e := lex.Number(s)
	if wantN, want := modelNumber(s); n != wantN || e != want {
		t.Fatalf("Number(%q): %d, %d, want %d, %d", s, n, e, wantN, want)
	}
}

// goThrough hands out all rows of at most count pieces.
func goThrough(pieces []string, count int, use func(string)) {
	var grow func(s string, more int)
	grow = func(s string, more int) {
		use(s)
		if more == 0 {
			return
		}
		for _, p := range pieces {
			grow(s+p, more-1)
		}
	}
	grow("", count)
}

func TestAllShortTexts(t *testing.T) {
	goThrough([]string{`"`, `\`, "n", " ", "\n", "!", "1", "٣", "-", "\x01", "\xff"}, 5, func(s string) { agrees(t, s) })
}

func TestAllShortNumbersAndBlanks(t *testing.T) {
	goThrough([]string{"1", "٣", "９", "-", "−", "\u00a0", "\u3000", "\t", "\r", "\ufffd", "a"}, 5, func(s string) { agrees(t, s) })
}

func TestAllShortBytes(t *testing.T) {
	for a := range 256 {
		agrees(t, string([]byte{byte(a)}))
		for b := range 256 {
			agrees(t, string([]byte{byte(a), byte(b)}))
		}
	}
}

func TestTextsByChance(t *testing.T) {
	r := rand.New(rand.NewSource(4))
	common := []string{" ", " ", " ", "\n", "\t", "\r", "\u00a0", "\u3000", `"`, `"`, `\n`, `\"`, `\\`, "! ", "!", "dup", "a", "語", "𝛼", "-", "−", "7", "1152921504606846975", "٣", "٠٠٠", "８", strings.Repeat("0", 40)}
	rare := []string{`\`, "1152921504606846976", "\ufffd", "\x01", "\x7f", "\xe2", strings.Repeat("b", 31)}
	for range 60000 {
		var b strings.Builder
		for range r.Intn(30) {
			from := common
			if r.Intn(60) == 0 {
				from = rare
			}
			b.WriteString(from[r.Intn(len(from))])
		}
		agrees(t, b.String())
	}
}

// Long texts, so that the ends of strings, tokens and texts are met.
func TestLongTextsByChance(t *testing.T) {
	r := rand.New(rand.NewSource(5))
	for range 60 {
		var b strings.Builder
		for size := r.Intn(api.MaxText + 200); b.Len() < size; {
			switch r.Intn(400) {
			case 0:
				b.WriteString(`"` + strings.Repeat(`\n`, r.Intn(api.MaxStr+20)) + `" `)
			case 1:
				b.WriteString("! " + strings.Repeat("a ", r.Intn(2000)) + "\n")
			case 2:
				b.WriteString(strings.Repeat("0", r.Intn(1000)) + "9 ")
			case 3:
				b.WriteString(`""`)
			default:
				b.WriteString("ab ")
			}
		}
		agrees(t, b.String())
	}
}
