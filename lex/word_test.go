package lex_test

import (
	"math/big"
	"math/rand"
	"strings"
	"testing"

	"quire/api"
	"quire/lex"
)

const (
	latin  = "0123456789"
	arabic = "٠١٢٣٤٥٦٧٨٩"
	wide   = "０１２３４５６７８９"
)

// in writes the number n with the digits of a script.
func in(script string, n *big.Int) string {
	digits := []rune(script)
	var b strings.Builder
	for _, c := range n.String() {
		b.WriteRune(digits[c-'0'])
	}
	return b.String()
}

func isName(t *testing.T, s string, want bool) {
	t.Helper()
	if lex.Name(s) != want {
		t.Errorf("Name(%q): %t", s, !want)
	}
}

func isNumber(t *testing.T, s string, want int64) {
	t.Helper()
	if n, e := lex.Number(s); n != want || e != api.OK {
		t.Errorf("Number(%q): %d, %d, want %d", short(s), n, e, want)
	}
}

func refusesNumber(t *testing.T, s string, want api.Errno) {
	t.Helper()
	if n, e := lex.Number(s); n != 0 || e != want {
		t.Errorf("Number(%q): %d, %d, want the error %d alone", short(s), n, e, want)
	}
}

func isQuoted(t *testing.T, s, want string) {
	t.Helper()
	if q, e := lex.Quoted(s); q != want || e != api.OK {
		t.Errorf("Quoted(%q): %q, %d, want %q", short(s), short(q), e, short(want))
	}
}

func refusesQuoted(t *testing.T, s string, want api.Errno) {
	t.Helper()
	if q, e := lex.Quoted(s); q != "" || e != want {
		t.Errorf("Quoted(%q): %q, %d, want the error %d alone", short(s), short(q), e, want)
	}
}

// P6.2: names

func TestNames(t *testing.T) {
	for _, s := range []string{"a", "dup", ":", ";", "t", "f", "--", "[", "!!", "!a", `a"`, `a"b`, `\`, "-", "−", "-−1", "--1", "1-", "1a", "1٣", "٣１", "-1٣", "語", "\u0080", "\u0085", "\u009f", "\u2003", "\ufffc", "\ufffe", "\U0010ffff", "~", "²", "१", "߀", "\ufeff"} {
		isName(t, s, true)
	}
}

func TestNoNames(t *testing.T) {
	for _, s := range []string{"", "!", `"`, `"a`, `"a"`, "12", "-12", "−12", "٣", "−１", " ", "a b", " a", "a ", "a\n", "\ufffd", "a\ufffd", "\xff", "a\xff", "\xffa", "\xe8\xaa", "! a"} {
		isName(t, s, false)
	}
}

func TestNumbersAreNoNames(t *testing.T) {
	for _, s := range []string{"0", "000", "1152921504606846976", strings.Repeat("9", 32), strings.Repeat("9", 33), "-" + strings.Repeat("٩", 31)} {
		isName(t, s, false)
	}
}

func TestLongNames(t *testing.T) {
	for _, c := range []string{"a", "é", "語", "𝛼", "-"} {
		isName(t, strings.Repeat(c, api.MaxName), true)
		isName(t, strings.Repeat(c, api.MaxName+1), false)
		isName(t, strings.Repeat(c, 100000), false)
	}
	isName(t, strings.Repeat("1", api.MaxName-1)+"a", true)
	isName(t, strings.Repeat("1", api.MaxName)+"a", false)
}

// Each character alone, and within a name.
func TestCharactersOfNames(t *testing.T) {
	none := map[rune]bool{0x7F: true, 0xA0: true, 0x3000: true, 0xFFFD: true, ' ': true}
	for c := rune(0); c < 0x20; c++ {
		none[c] = true
	}
	for c := rune(0); c <= 0x10FFFF; c++ {
		if 0xD800 <= c && c <= 0xDFFF {
			continue
		}
		digit := '0' <= c && c <= '9' || 0x660 <= c && c <= 0x669 || 0xFF10 <= c && c <= 0xFF19
		isName(t, string(c), !none[c] && !digit && c != '"' && c != '!')
		isName(t, "a"+string(c), !none[c])
	}
}

// P6.2: numbers

func TestNumberExamples(t *testing.T) {
	refusesNumber(t, "-", api.ErrText)
	refusesNumber(t, "1152921504606846976", api.ErrLarge)
	isNumber(t, "-1152921504606846976", api.MinInt)
	isNumber(t, "000", 0)
}

func TestDigitsOfEachScript(t *testing.T) {
	for _, script := range []string{latin, arabic, wide} {
		n := int64(0)
		for _, c := range script {
			isNumber(t, string(c), n)
			isNumber(t, "-"+string(c), -n)
			isNumber(t, "−"+string(c), -n)
			n++
		}
		isNumber(t, script, 123456789)
		isNumber(t, "−"+script, -123456789)
	}
	isNumber(t, "-٤٢", -42)
	isNumber(t, "−００４２", -42)
}

func TestNoDigits(t *testing.T) {
	for _, c := range []rune{'0' - 1, '9' + 1, 0x65F, 0x66A, 0xFF0F, 0xFF1A, 0x6F0, 0x966, 0x2070, 0xB2, 0xBD, 0x2160, 0x4E00, 0x1D7CE} {
		refusesNumber(t, string(c), api.ErrText)
		refusesNumber(t, "1"+string(c), api.ErrText)
		refusesNumber(t, string(c)+"1", api.ErrText)
	}
}

func TestNoNumbers(t *testing.T) {
	for _, s := range []string{"", "-", "−", "--1", "-−1", "−-1", "+1", "1-", "1 ", " 1", "- 1", "1\n", "1٣", "٣1", "1１", "１٣", "11111٣1111", "1a", "a1", "0x1", "1_0", "1.0", "1e3", "‐1", "–1", "－1", "1\xff", "\xff", "-\xff", "\xe2\x881", `"1"`} {
		refusesNumber(t, s, api.ErrText)
	}
	refusesNumber(t, strings.Repeat("9", 40)+"a", api.ErrText)
	refusesNumber(t, strings.Repeat("9", 40)+"٩", api.ErrText)
}

func TestNumbersAtTheEnds(t *testing.T) {
	one := big.NewInt(1)
	for _, script := range []string{latin, arabic, wide} {
		for _, ahead := range []string{"", strings.Repeat(string([]rune(script)[0]), 300)} {
			most, least := big.NewInt(api.MaxInt), big.NewInt(-api.MinInt)
			isNumber(t, ahead+in(script, most), api.MaxInt)
			refusesNumber(t, ahead+in(script, most.Add(most, one)), api.ErrLarge)
			isNumber(t, "-"+ahead+in(script, least), api.MinInt)
			isNumber(t, "−"+ahead+in(script, least), api.MinInt)
			least.Add(least, one)
			refusesNumber(t, "-"+ahead+in(script, least), api.ErrLarge)
			refusesNumber(t, "−"+ahead+in(script, least), api.ErrLarge)
		}
	}
	isNumber(t, "-0", 0)
	isNumber(t, "−000", 0)
}

// Numbers that would be small again if they wrapped round.
func TestNumbersDoNotWrapRound(t *testing.T) {
	for bit := uint(60); bit < 300; bit++ {
		n := new(big.Int).Lsh(big.NewInt(1), bit)
		for near := int64(0); near < 12; near++ {
			s := new(big.Int).Add(n, big.NewInt(near)).String()
			refusesNumber(t, s, api.ErrLarge)
			if bit > 60 || near > 0 {
				refusesNumber(t, "-"+s, api.ErrLarge)
			}
		}
	}
	refusesNumber(t, "1"+strings.Repeat("0", 100000), api.ErrLarge)
	isNumber(t, strings.Repeat("0", 100000)+"12", 12)
}

func TestNumbersByChance(t *testing.T) {
	r := rand.New(rand.NewSource(1))
	for range 20000 {
		n := int64(r.Uint64()) >> r.Intn(64)
		size := new(big.Int).Abs(big.NewInt(n))
		s := in([]string{latin, arabic, wide}[r.Intn(3)], size)
		if n < 0 {
			s = []string{"-", "−"}[r.Intn(2)] + s
		}
		if api.MinInt <= n && n <= api.MaxInt {
			isNumber(t, s, n)
		} else {
			refusesNumber(t, s, api.ErrLarge)
		}
	}
}

// P6.2: strings

func TestQuoted(t *testing.T) {
	isQuoted(t, "", `""`)
	isQuoted(t, "a b", `"a b"`)
	isQuoted(t, "a\n\"\\", `"a\n\"\\"`)
	isQuoted(t, `\n`, `"\\n"`)
	isQuoted(t, "\t\r\x00\x7f\u00a0\ufffd語𝛼'`", "\"\t\r\x00\x7f\u00a0\ufffd語𝛼'`\"")
}

func TestQuotedAtTheEnd(t *testing.T) {
	for _, c := range []struct{ plain, quoted string }{{"a", "a"}, {"\n", `\n`}, {`"`, `\"`}, {`\`, `\\`}} {
		isQuoted(t, strings.Repeat(c.plain, api.MaxStr), `"`+strings.Repeat(c.quoted, api.MaxStr)+`"`)
		refusesQuoted(t, strings.Repeat(c.plain, api.MaxStr+1), api.ErrLarge)
	}
	three := strings.Repeat("語", api.MaxStr/3)
	isQuoted(t, three+"a", `"`+three+`a"`)
	refusesQuoted(t, three+"é", api.ErrLarge)
	refusesQuoted(t, strings.Repeat("a", 1<<20), api.ErrLarge)
}

func TestQuotedOfBytesOfNoCharacter(t *testing.T) {
	for _, s := range []string{"\xff", "a\xc3", "\xed\xa0\x80", "\ufffd\xff", "\xe8\xaa"} {
		refusesQuoted(t, s, api.ErrUtf8)
		refusesQuoted(t, strings.Repeat("a", api.MaxStr+1)+s, api.ErrUtf8)
	}
}

// What follows: the token that Quoted answers is one string, and stands for what it was given.
func TestQuotedAndBack(t *testing.T) {
	r := rand.New(rand.NewSource(2))
	pieces := []string{"a", "n", "\n", `"`, `\`, " ", "!", "語", "\ufffd", "\x01", "1", "\u00a0"}
	for range 5000 {
		var b strings.Builder
		for range r.Intn(12) {
			b.WriteString(pieces[r.Intn(len(pieces))])
		}
		s := b.String()
		q, e := lex.Quoted(s)
		if e != api.OK {
			t.Fatalf("Quoted(%q): %d", s, e)
		}
		gives(t, q, str(0, s))
		gives(t, "a "+q+q+"b", word(0, "a"), str(2, s), str(2+len(q), s), word(2+2*len(q), "b"))
	}
}
