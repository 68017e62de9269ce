package lex_test

import (
	"slices"
	"strings"
	"testing"

	"quire/api"
	"quire/lex"
)

func word(at int, text string) api.Token { return api.Token{Kind: api.TWord, Text: text, At: at} }
func number(at int, n int64) api.Token   { return api.Token{Kind: api.TNum, N: n, At: at} }
func str(at int, text string) api.Token  { return api.Token{Kind: api.TStr, Text: text, At: at} }

// short cuts a long text for a message.
func short(s string) string {
	if len(s) > 60 {
		return s[:60] + " .."
	}
	return s
}

func gives(t *testing.T, s string, want ...api.Token) {
	t.Helper()
	if list, at, e := lex.Tokens(s); !slices.Equal(list, want) || at != 0 || e != api.OK {
		t.Errorf("Tokens(%q): %d tokens, %v .., %d, %d, want %d, %v ..", short(s), len(list), list[:min(len(list), 9)], at, e, len(want), want[:min(len(want), 9)])
	}
}

func refuses(t *testing.T, s string, place int, want api.Errno) {
	t.Helper()
	if list, at, e := lex.Tokens(s); len(list) != 0 || at != place || e != want {
		t.Errorf("Tokens(%q): %d tokens, %d, %d, want the error %d at %d alone", short(s), len(list), at, e, want, place)
	}
}

// P6.1: what the tokens are

func TestExamples(t *testing.T) {
	gives(t, "2 -٣ dup \"a\\\"b\" ! and so on", number(0, 2), number(2, -3), word(6, "dup"), str(10, `a"b`))
	refuses(t, `"a`, 0, api.ErrText)
	refuses(t, `"a\x"`, 2, api.ErrText)
	gives(t, "1٣", word(0, "1٣"))
	gives(t, `a"b`, word(0, `a"b`))
}

func TestNothing(t *testing.T) {
	for _, s := range []string{"", " ", "\t\n\r \u00a0\u3000", "!", " !", "! ", "!\n", "! a", "! \"a", "!\n!\n", "! a\n ! b"} {
		gives(t, s)
	}
}

func TestBlanks(t *testing.T) {
	for _, c := range []rune{9, 10, 13, 32, 0xA0, 0x3000} {
		b := string(c)
		gives(t, "a"+b+"b", word(0, "a"), word(1+len(b), "b"))
		gives(t, b+b+"7"+b, number(2*len(b), 7))
		gives(t, `"a"`+b+`"b"`, str(0, "a"), str(3+len(b), "b"))
		gives(t, `"`+b+`"`, str(0, b))
	}
}

// The other characters that some take for blanks are a word's own, or no name's.
func TestNoBlanks(t *testing.T) {
	for _, c := range []rune{0x85, 0x1680, 0x2000, 0x2003, 0x2009, 0x200B, 0x2028, 0x2029, 0x202F, 0x205F, 0x3001, 0xFEFF, 0x9F, 0xA1} {
		s := "a" + string(c) + "b"
		gives(t, s, word(0, s))
	}
	for _, c := range []rune{0, 1, 8, 11, 12, 14, 0x1B, 0x1C, 0x1F, 0x7F, 0xFFFD} {
		refuses(t, "x a"+string(c)+"b", 2, api.ErrName)
	}
}

func TestWords(t *testing.T) {
	gives(t, "dup swap", word(0, "dup"), word(4, "swap"))
	gives(t, ": sq ( n -- m ) dup * ;", word(0, ":"), word(2, "sq"), word(5, "("), word(7, "n"), word(9, "--"), word(12, "m"), word(14, ")"), word(16, "dup"), word(20, "*"), word(22, ";"))
	for _, s := range []string{"!!", "!a", "a!", "!1", `a"`, `a""b`, `!"`, `\`, `\n`, `\"`, "[1]", "語", "𝛼", "\u0085", "é", "e\u0301"} {
		gives(t, s, word(0, s))
	}
}

func TestWordsHaveNoNumberAndNumbersNoText(t *testing.T) {
	gives(t, "12 a", api.Token{Kind: 2, Text: "", N: 12, At: 0}, api.Token{Kind: 1, Text: "a", N: 0, At: 3})
	gives(t, `"12"`, api.Token{Kind: 3, Text: "12", N: 0, At: 0})
}

func TestPlacesAreBytes(t *testing.T) {
	gives(t, "語 \u3000é 𝛼 \"é\" 1", word(0, "語"), word(7, "é"), word(10, "𝛼"), str(15, "é"), number(20, 1))
}

func TestRemarks(t *testing.T) {
	gives(t, "a ! b\nc", word(0, "a"), word(6, "c"))
	gives(t, "a !\nc", word(0, "a"), word(4, "c"))
	gives(t, "!\n\nc", word(3, "c"))
	gives(t, "! a ! b\n! c\nd ! e", word(12, "d"))
	gives(t, "a ! \"b\n\"c\"", word(0, "a"), str(7, "c"))
	gives(t, "!\u00a0a\n1", number(5, 1))
	gives(t, "!\u3000a\n1", number(6, 1))
	gives(t, "!\ra\tb\r\n1", number(7, 1))
	gives(t, "! \x01 \ufffd \"\\x 99999999999999999999\na", word(33, "a"))
	gives(t, "!a b", word(0, "!a"), word(3, "b"))
	gives(t, "a! b", word(0, "a!"), word(3, "b"))
	gives(t, "\"a\"! b\nc", str(0, "a"), word(7, "c"))
	gives(t, "\"! a\n\"", str(0, "! a\n"))
}

func TestStrings(t *testing.T) {
	gives(t, `""`, str(0, ""))
	gives(t, `"a b"`, str(0, "a b"))
	gives(t, `"a\nb"`, str(0, "a\nb"))
	gives(t, "\"a\nb\"", str(0, "a\nb"))
	gives(t, `"\""`, str(0, `"`))
	gives(t, `"\\"`, str(0, `\`))
	gives(t, `"\\n"`, str(0, `\n`))
	gives(t, `"\\\""`, str(0, `\"`))
	gives(t, `"\\" b`, str(0, `\`), word(5, "b"))
	gives(t, "\"\x00\x01\t\x7f\ufffd\u00a0語\"", str(0, "\x00\x01\t\x7f\ufffd\u00a0語"))
}

// Behind a string's end the next token needs no blank.
func TestBehindStrings(t *testing.T) {
	gives(t, `"a"b`, str(0, "a"), word(3, "b"))
	gives(t, `"a"12`, str(0, "a"), number(3, 12))
	gives(t, `"a""b"`, str(0, "a"), str(3, "b"))
	gives(t, `"a"b"c"`, str(0, "a"), word(3, `b"c"`))
	gives(t, `"a"\"`, str(0, "a"), word(3, `\"`))
	gives(t, `"a"""b"`, str(0, "a"), str(3, ""), word(5, `b"`))
	refuses(t, `"a""" "b`, 6, api.ErrText)
}

// P6.1: faults

func TestTextIsTooLarge(t *testing.T) {
	gives(t, strings.Repeat(" ", api.MaxText))
	gives(t, strings.Repeat(" ", api.MaxText-1)+"a", word(api.MaxText-1, "a"))
	refuses(t, strings.Repeat(" ", api.MaxText+1), 0, api.ErrLarge)
	refuses(t, " \xff \x01 \""+strings.Repeat(" ", api.MaxText), 0, api.ErrLarge)
	refuses(t, strings.Repeat("\u3000", api.MaxText/3+1), 0, api.ErrLarge)
}

func TestBytesOfNoCharacter(t *testing.T) {
	for _, s := range []string{"\xff", "\x80", "\xc0\x80", "\xc3", "\xe2\x88", "\xe2\x88 ", "\xed\xa0\x80", "\xf4\x90\x80\x80", "\xf0\x9d\x9b", "\xc3(", "\xbf\xbd"} {
		refuses(t, s, 0, api.ErrUtf8)
		refuses(t, "語 "+s, 4, api.ErrUtf8)
		refuses(t, "\ufffd"+s+"\ufffd\xff", 3, api.ErrUtf8)
		refuses(t, `"a`+s+`"`, 2, api.ErrUtf8)
		refuses(t, "! "+s, 2, api.ErrUtf8)
	}
	refuses(t, "a\xff \xff", 1, api.ErrUtf8)
}

// Bytes of no character count ahead of all faults of tokens, wherever these stand.
func TestBytesOfNoCharacterComeFirst(t *testing.T) {
	for _, s := range []string{"\x01 ", `"a\x" `, "1152921504606846976 ", `"`, strings.Repeat("a ", api.MaxItems+1), "\"" + strings.Repeat("a", api.MaxStr+1) + "\" "} {
		refuses(t, s+"\xff", len(s), api.ErrUtf8)
	}
}

func TestStringsWithoutAnEnd(t *testing.T) {
	refuses(t, `"`, 0, api.ErrText)
	refuses(t, `a "b`, 2, api.ErrText)
	refuses(t, `a "b\"`, 2, api.ErrText)
	refuses(t, `a "b\\\" c ! d`, 2, api.ErrText)
	refuses(t, "\"a\" \"\n\n", 4, api.ErrText)
	refuses(t, `"`+strings.Repeat("a", api.MaxStr+1), 0, api.ErrText)
	refuses(t, `""`+`"`, 2, api.ErrText)
}

func TestBackslashesThatMayNotStandThere(t *testing.T) {
	for _, c := range []string{"x", "N", "t", "0", " ", "\n", "'", "/", "語", "\x00", "\ufffd", "o"} {
		refuses(t, `a "b\`+c+`" "c`, 4, api.ErrText)
		refuses(t, `"`+`\`+c+`\`+c+`"`, 1, api.ErrText)
		refuses(t, `"\\\n\"\`+c+`"`, 7, api.ErrText)
	}
}

// A string without an end that has such a \ is at fault there, be it that nothing follows.
func TestBackslashesAheadOfAMissingEnd(t *testing.T) {
	refuses(t, `"a\x`, 2, api.ErrText)
	refuses(t, `"語\x b`, 4, api.ErrText)
	refuses(t, `"a\`, 2, api.ErrText)
	refuses(t, `"\`, 1, api.ErrText)
	refuses(t, `"a\\\`, 4, api.ErrText)
	refuses(t, `b "\n\"\`, 7, api.ErrText)
}

func TestStringsAreTooLarge(t *testing.T) {
	full := strings.Repeat("a", api.MaxStr)
	gives(t, `"`+full+`" b`, str(0, full), word(api.MaxStr+3, "b"))
	refuses(t, `b "`+full+`a"`, 2, api.ErrLarge)
	lines := strings.Repeat("\n", api.MaxStr)
	gives(t, `"`+strings.Repeat(`\n`, api.MaxStr)+`"`, str(0, lines))
	refuses(t, `b "`+strings.Repeat(`\n`, api.MaxStr+1)+`"`, 2, api.ErrLarge)
	gives(t, `"`+strings.Repeat(`\\`, api.MaxStr)+`"`, str(0, strings.Repeat(`\`, api.MaxStr)))
	wide := strings.Repeat("語", api.MaxStr/3)
	gives(t, `"`+wide+`a"`, str(0, wide+"a"))
	refuses(t, `"`+wide+`aa"`, 0, api.ErrLarge)
}

func TestWhatCountsInALargeString(t *testing.T) {
	large := strings.Repeat("a", api.MaxStr+1)
	refuses(t, `b "`+large, 2, api.ErrText)
	refuses(t, `b "`+large+`\x"`, 3+len(large), api.ErrText)
	refuses(t, `b "`+large+`\`, 3+len(large), api.ErrText)
	refuses(t, `b "`+large+`" \x "`, 2, api.ErrLarge)
}

func TestNumbersInSources(t *testing.T) {
	gives(t, "1152921504606846975 -1152921504606846976", number(0, api.MaxInt), number(20, api.MinInt))
	refuses(t, "x 1152921504606846976", 2, api.ErrLarge)
	refuses(t, "x -1152921504606846977 \x01", 2, api.ErrLarge)
	refuses(t, "x 99999999999999999999999999999999999999999999", 2, api.ErrLarge)
	gives(t, strings.Repeat("0", api.MaxText-1)+"7", number(0, 7))
	gives(t, "-"+strings.Repeat("٠", 100)+"٧ b", number(0, -7), word(204, "b"))
	gives(t, "−１２ −", number(0, -12), word(10, "−"))
	gives(t, "- -- -a 1- +1 1.5 -1٣ 1１", word(0, "-"), word(2, "--"), word(5, "-a"), word(8, "1-"), word(11, "+1"), word(14, "1.5"), word(18, "-1٣"), word(23, "1１"))
}

func TestNamesInSources(t *testing.T) {
	full := strings.Repeat("a", api.MaxName)
	gives(t, "x "+full, word(0, "x"), word(2, full))
	refuses(t, "x "+full+"a", 2, api.ErrName)
	wide := strings.Repeat("𝛼", api.MaxName)
	gives(t, wide+" x", word(0, wide), word(4*api.MaxName+1, "x"))
	refuses(t, wide+"a x", 0, api.ErrName)
	refuses(t, strings.Repeat("1", api.MaxName)+"a", 0, api.ErrName)
	refuses(t, strings.Repeat("1", api.MaxName)+"٣", 0, api.ErrName)
	refuses(t, strings.Repeat("!", api.MaxName+1), 0, api.ErrName)
	refuses(t, "a b\x01 \x02", 2, api.ErrName)
}

func TestTheFirstFaultCounts(t *testing.T) {
	refuses(t, "\x01 \"a", 0, api.ErrName)
	refuses(t, `1152921504606846976 "a\x`, 0, api.ErrLarge)
	refuses(t, "\"a\\x\" \x01", 2, api.ErrText)
	refuses(t, "\"a \x01 1152921504606846976", 0, api.ErrText)
	refuses(t, "\x01 1152921504606846976", 0, api.ErrName)
	refuses(t, "1152921504606846976 \x01", 0, api.ErrLarge)
	refuses(t, `"`+strings.Repeat("a", api.MaxStr+1)+`" "`, 0, api.ErrLarge)
}

func TestTokensAreTooMany(t *testing.T) {
	full := strings.Repeat("a ", api.MaxItems)
	var want []api.Token
	for i := range api.MaxItems {
		want = append(want, word(2*i, "a"))
	}
	gives(t, full, want...)
	gives(t, full+" ! a b c\n ! d", want...)
	for _, s := range []string{"a", "1", `"a"`, "a b c", "a \x01", `1 "`, `"a"\x "`, "a 1152921504606846976"} {
		refuses(t, full+s, len(full), api.ErrLarge)
		refuses(t, full+" ! x\n"+s, len(full)+5, api.ErrLarge)
	}
}

func TestTheTokenTooManyHasAFaultItself(t *testing.T) {
	full := strings.Repeat("a ", api.MaxItems)
	refuses(t, full+`"a`, len(full), api.ErrText)
	refuses(t, full+`"a\x"`, len(full)+2, api.ErrText)
	refuses(t, full+`"a\x`, len(full)+2, api.ErrText)
	refuses(t, full+"\x01", len(full), api.ErrName)
	refuses(t, full+"1152921504606846976", len(full), api.ErrLarge)
	refuses(t, full+`"`+strings.Repeat("a", api.MaxStr+1)+`"`, len(full), api.ErrLarge)
}

func TestManyTokensOfEachKind(t *testing.T) {
	for _, s := range []string{`""`, "1 ", `"a" `, `"a"b `} {
		count := api.MaxItems
		if s == `"a"b ` {
			count /= 2
		}
		full := strings.Repeat(s, count)
		if list, at, e := lex.Tokens(full); len(list) != api.MaxItems || at != 0 || e != api.OK {
			t.Errorf("%q as often as may be: %d tokens, %d, %d", s, len(list), at, e)
		}
		refuses(t, full+s, len(full), api.ErrLarge)
	}
}

// R4, R5

func TestTokensAreNewMemory(t *testing.T) {
	s := `a 1 "b" c`
	first, _, _ := lex.Tokens(s)
	for i := range first[:cap(first)] {
		first[:cap(first)][i] = api.Token{Kind: 9, Text: "x", N: 9, At: 9}
	}
	gives(t, s, word(0, "a"), number(2, 1), str(4, "b"), word(8, "c"))
}
