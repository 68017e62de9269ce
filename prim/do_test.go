package prim_test

import (
	"strings"
	"testing"

	"quire/api"
)

// P12.2: what each primitive does

func TestMoves(t *testing.T) {
	does(t, "dup", "1", "1 1")
	does(t, "dup", `{ 1 [ a ] }`, `{ 1 [ a ] } { 1 [ a ] }`)
	does(t, "drop", "1", "")
	does(t, "drop", "1 2", "1")
	does(t, "swap", "1 2", "2 1")
	does(t, "over", "1 2", "1 2 1")
	does(t, "rot", "1 2 3", "2 3 1")
	does(t, "nip", "1 2", "2")
	does(t, "tuck", "1 2", "2 1 2")
	does(t, "swap", `"a" [ b ]`, `[ b ] "a"`)
	does(t, "over", `{ } t`, `{ } t { }`)
	does(t, "rot", `box "s" f`, `"s" f box`)
}

const (
	most  = "1152921504606846975"
	least = "-1152921504606846976"
)

func TestArithmetic(t *testing.T) {
	for _, c := range [][3]string{
		{"+", "2 -3", "-1"}, {"+", most + " 0", most}, {"+", "1152921504606846974 1", most}, {"+", least + " " + most, "-1"},
		{"-", "2 3", "-1"}, {"-", "-1152921504606846975 1", least}, {"-", "-1 " + least, most}, {"-", least + " " + least, "0"},
		{"*", "-4 3", "-12"}, {"*", "1073741824 -1073741824", least}, {"*", least + " 1", least}, {"*", "0 " + least, "0"},
		{"/", "7 2", "3"}, {"/", "-7 2", "-3"}, {"/", "7 -2", "-3"}, {"/", "-7 -2", "3"}, {"/", least + " 1", least}, {"/", "0 5", "0"}, {"/", "1 2", "0"}, {"/", "2 1", "2"},
		{"mod", "7 2", "1"}, {"mod", "-7 2", "-1"}, {"mod", "7 -2", "1"}, {"mod", "-7 -2", "-1"}, {"mod", least + " -1", "0"}, {"mod", "2 7", "2"},
		{"neg", "5", "-5"}, {"neg", "-5", "5"}, {"neg", "0", "0"}, {"neg", most, "-1152921504606846975"}, {"neg", "-1152921504606846975", most},
		{"abs", "5", "5"}, {"abs", "-5", "5"}, {"abs", "0", "0"}, {"abs", most, most}, {"abs", "-1152921504606846975", most},
		{"min", "1 2", "1"}, {"min", "2 1", "1"}, {"min", "3 3", "3"}, {"min", least + " " + most, least}, {"min", "-1 -2", "-2"},
		{"max", "1 2", "2"}, {"max", "2 1", "2"}, {"max", "3 3", "3"}, {"max", least + " " + most, most}, {"max", "-1 -2", "-1"},
	} {
		does(t, c[0], c[1], c[2])
	}
}

func TestArithmeticBeyondItsEnds(t *testing.T) {
	for _, c := range [][2]string{
		{"+", most + " 1"}, {"+", "1 " + most}, {"+", least + " -1"}, {"+", most + " " + most}, {"+", least + " " + least},
		{"-", least + " 1"}, {"-", "0 " + least}, {"-", most + " -1"}, {"-", least + " " + most},
		{"*", most + " 2"}, {"*", least + " -1"}, {"*", "-1 " + least}, {"*", "1073741824 1073741824"}, {"*", least + " " + least}, {"*", most + " " + least},
		{"/", least + " -1"}, {"neg", least}, {"abs", least},
	} {
		refuses(t, c[0], stack(t, c[1]), api.ErrOver)
	}
	for _, n := range []string{"0", "1", "-7", most, least} {
		refuses(t, "/", stack(t, n+" 0"), api.ErrZero)
		refuses(t, "mod", stack(t, n+" 0"), api.ErrZero)
	}
}

func TestComparisons(t *testing.T) {
	for _, c := range [][3]string{
		{"1 2", "t", "f"}, {"2 1", "f", "t"}, {"2 2", "f", "f"}, {"-1 1", "t", "f"}, {"-1 -2", "f", "t"},
		{least + " " + most, "t", "f"}, {most + " " + least, "f", "t"}, {"0 " + least, "f", "t"}, {most + " " + most, "f", "f"},
	} {
		does(t, "<", c[0], c[1])
		does(t, ">", c[0], c[2])
	}
}

func TestEquality(t *testing.T) {
	different := []string{"0", "1", `""`, `"1"`, `"a"`, "t", "f", "box", "{ }", "{ 1 }", "{ 1 2 }", "{ { } }", "[ ]", "[ 1 ]", "[ 1 2 ]", "[ a ]", `[ "a" ]`, "[ [ ] ]", "[ { } ]", "{ [ ] }"}
	for i, a := range different {
		for k, b := range different {
			want := "f"
			if i == k {
				want = "t"
			}
			does(t, "=", a+" "+b, want)
		}
	}
	gives(t, "=", values(box(1), box(2)), values(flag(false)))
	gives(t, "=", values(list(box(1)), list(box(1))), values(flag(true)))
	gives(t, "=", values(list(box(1)), list(box(2))), values(flag(false)))
	gives(t, "=", values(api.List{}, api.List{Items: []api.Value{}}), values(flag(true)))
}

func TestFlags(t *testing.T) {
	for _, c := range [][3]string{{"f f", "f", "f"}, {"f t", "f", "t"}, {"t f", "f", "t"}, {"t t", "t", "t"}} {
		does(t, "and", c[0], c[1])
		does(t, "or", c[0], c[2])
	}
	does(t, "not", "f", "t")
	does(t, "not", "t", "f")
}

func TestWhatKindItIs(t *testing.T) {
	words := []string{"int?", "str?", "bool?", "list?", "quot?", "box?"}
	for kind, of := range [][]string{{"0", "-5", most}, {`""`, `"t"`, `"5"`}, {"t", "f"}, {"{ }", "{ 1 [ ] }"}, {"[ ]", "[ 1 { } ]", "[ box ]"}, {"box"}} {
		for _, v := range of {
			for i, word := range words {
				want := "f"
				if i == kind {
					want = "t"
				}
				does(t, word, v, want)
			}
		}
	}
}

// characters is a text with characters of one to four bytes, with a mark on its own, and with the character that stands for bytes that are none.
const characters = "aé語😀e\u0301\ufffd\x00\n"

func TestLength(t *testing.T) {
	for _, c := range [][2]string{{`""`, "0"}, {`"a"`, "1"}, {`"é語"`, "2"}, {`"\n\"\\"`, "3"}, {"{ }", "0"}, {"{ 1 }", "1"}, {"{ { 1 2 } { } [ a ] }", "3"}, {"[ ]", "0"}, {"[ a ]", "1"}, {"[ 1 { 2 3 } a [ b c ] ]", "4"}} {
		does(t, "length", c[0], c[1])
	}
	gives(t, "length", values(str(characters)), values(num(9)))
	gives(t, "length", values(str(strings.Repeat("a", api.MaxStr))), values(num(api.MaxStr)))
	gives(t, "length", values(str(strings.Repeat("😀", api.MaxStr/4))), values(num(api.MaxStr/4)))
	gives(t, "length", values(list(alike(api.MaxSize-1, num(1))...)), values(num(api.MaxSize-1)))
}

func TestAppend(t *testing.T) {
	for _, c := range [][2]string{
		{`"" ""`, `""`}, {`"a" ""`, `"a"`}, {`"" "a"`, `"a"`}, {`"ab" "cé"`, `"abcé"`},
		{"{ } { }", "{ }"}, {"{ 1 } { }", "{ 1 }"}, {"{ } { 1 }", "{ 1 }"}, {`{ 1 { 2 } } { "a" }`, `{ 1 { 2 } "a" }`}, {"{ { } } { { } }", "{ { } { } }"},
		{"[ ] [ ]", "[ ]"}, {"[ a ] [ ]", "[ a ]"}, {"[ ] [ a ]", "[ a ]"}, {"[ 1 a ] [ [ b ] c ]", "[ 1 a [ b ] c ]"},
	} {
		does(t, "append", c[0], c[1])
	}
	gives(t, "append", values(list(box(1)), list(box(2))), values(list(box(1), box(2))))
	refuses(t, "append", stack(t, `{ } "a"`), api.ErrKind)
	refuses(t, "append", stack(t, "{ } [ ]"), api.ErrKind)
	refuses(t, "append", stack(t, "[ ] { }"), api.ErrKind)
	refuses(t, "append", stack(t, `[ ] ""`), api.ErrKind)
	refuses(t, "append", stack(t, `"" [ ]`), api.ErrKind)
}

func TestNth(t *testing.T) {
	for i, c := range []rune(characters) {
		gives(t, "nth", values(num(int64(i)), str(characters)), values(str(string(c))))
	}
	for i, c := range []string{"1", `"a"`, "{ 2 }", "[ b ]", "box", "t"} {
		gives(t, "nth", values(num(int64(i)), api.List{Items: stack(t, `1 "a" { 2 } [ b ] box t`)}), stack(t, c))
	}
	for _, c := range []struct {
		length int64
		row    string
	}{{0, `""`}, {1, `"a"`}, {3, `"aé語"`}, {0, "{ }"}, {1, "{ 1 }"}, {3, "{ 1 { } 2 }"}} {
		for _, n := range []int64{-1, -2, c.length, c.length + 1, 1 << 32, api.MaxInt, api.MinInt} {
			refuses(t, "nth", append(values(num(n)), stack(t, c.row)...), api.ErrRange)
		}
	}
}

func TestSlice(t *testing.T) {
	for _, c := range [][2]string{
		{`0 0 ""`, `""`}, {`0 3 "aéb"`, `"aéb"`}, {`0 0 "aéb"`, `""`}, {`3 3 "aéb"`, `""`}, {`1 2 "aéb"`, `"é"`}, {`1 3 "aéb"`, `"éb"`}, {`0 2 "aéb"`, `"aé"`},
		{"0 0 { }", "{ }"}, {"0 3 { 1 { } [ a ] }", "{ 1 { } [ a ] }"}, {"2 2 { 1 2 3 }", "{ }"}, {"3 3 { 1 2 3 }", "{ }"}, {"1 2 { 1 2 3 }", "{ 2 }"}, {"1 3 { 1 { 4 } 3 }", "{ { 4 } 3 }"},
	} {
		does(t, "slice", c[0], c[1])
	}
	letters := []rune(characters)
	for n := range len(letters) + 1 {
		for m := n; m <= len(letters); m++ {
			gives(t, "slice", values(num(int64(n)), num(int64(m)), str(characters)), values(str(string(letters[n:m]))))
		}
	}
	ends := []int64{api.MinInt, -1 << 32, -2, -1, 0, 1, 2, 3, 4, 1 << 32, 1<<32 + 1, api.MaxInt}
	for _, n := range ends {
		for _, m := range ends {
			if 0 <= n && n <= m && m <= 3 {
				continue
			}
			refuses(t, "slice", values(num(n), num(m), str("aé語")), api.ErrRange)
			refuses(t, "slice", values(num(n), num(m), list(num(1), list(), num(2))), api.ErrRange)
		}
	}
}

func TestPairs(t *testing.T) {
	does(t, "wrap", "1", "{ 1 }")
	does(t, "wrap", "{ }", "{ { } }")
	does(t, "wrap", "[ a ]", "{ [ a ] }")
	gives(t, "wrap", values(box(4)), values(list(box(4))))
	does(t, "pair", "1 2", "{ 1 2 }")
	does(t, "pair", `"a" { 1 }`, `{ "a" { 1 } }`)
	does(t, "pair", "[ ] t", "{ [ ] t }")
	gives(t, "pair", values(box(4), box(4)), values(list(box(4), box(4))))
	does(t, "unpair", "{ 1 2 }", "1 2")
	does(t, "unpair", `{ { 1 } [ a ] }`, `{ 1 } [ a ]`)
	for _, l := range []string{"{ }", "{ 1 }", "{ 1 2 3 }", "{ { 1 2 } }"} {
		refuses(t, "unpair", stack(t, l), api.ErrRange)
	}
}

func TestReverse(t *testing.T) {
	for _, c := range [][2]string{{`""`, `""`}, {`"a"`, `"a"`}, {`"aé語"`, `"語éa"`}, {"{ }", "{ }"}, {"{ 1 }", "{ 1 }"}, {"{ 1 { 2 3 } [ a b ] }", "{ [ a b ] { 2 3 } 1 }"}, {"{ 1 2 3 4 }", "{ 4 3 2 1 }"}} {
		does(t, "reverse", c[0], c[1])
	}
	gives(t, "reverse", values(str(characters)), values(str("\n\x00\ufffd\u0301e😀語éa")))
}

func TestCurryAndCompose(t *testing.T) {
	for _, c := range [][2]string{{"1 [ ]", "[ 1 ]"}, {"1 [ 2 a ]", "[ 1 2 a ]"}, {`"s" [ a ]`, `[ "s" a ]`}, {"[ a ] [ b ]", "[ [ a ] b ]"}, {"{ 1 } [ b ]", "[ { 1 } b ]"}, {"t [ ]", "[ t ]"}} {
		does(t, "curry", c[0], c[1])
	}
	gives(t, "curry", values(box(4), quot(call("get"))), values(quot(push(box(4)), call("get"))))
	for _, c := range [][2]string{{"[ ] [ ]", "[ ]"}, {"[ a ] [ ]", "[ a ]"}, {"[ ] [ a ]", "[ a ]"}, {"[ 1 a ] [ [ b ] c ]", "[ 1 a [ b ] c ]"}} {
		does(t, "compose", c[0], c[1])
	}
}

func TestToText(t *testing.T) {
	for _, c := range [][2]string{{"5", "5"}, {"-12", "-12"}, {least, least}, {"t", "t"}, {"f", "f"}, {"box", "box"}, {"{ }", "{ }"}, {"[ ]", "[ ]"}, {`{ 1 "a" [ dup { t } ] }`, `{ 1 "a" [ dup { t } ] }`}, {`"a"`, `"a"`}, {`""`, `""`}, {`"\n"`, `"\n"`}, {`"\"é"`, `"\"é"`}} {
		gives(t, ">str", stack(t, c[0]), values(str(c[1])))
	}
	gives(t, ">str", values(list(box(2), quot(push(box(3))))), values(str("{ box [ box ] }")))
}

func TestToNumber(t *testing.T) {
	for _, c := range [][2]string{{"0", "0"}, {"5", "5"}, {"-5", "-5"}, {"−5", "-5"}, {"٣٤", "34"}, {"-１２", "-12"}, {"000", "0"}, {"-0", "0"}, {"0007", "7"}, {most, most}, {least, least}, {"00" + most, most}, {strings.Repeat("0", api.MaxStr-1) + "8", "8"}} {
		gives(t, ">int", values(str(c[0])), stack(t, c[1]))
	}
	for _, s := range []string{"", "-", "−", "x", "+5", "--5", " 5", "5 ", "5\n", "1٣", "1.0", "0x1", "1e3", "t", "five", "\ufffd", "²", "५", "5-", strings.Repeat("9", api.MaxStr-1) + "x"} {
		refuses(t, ">int", values(str(s)), api.ErrText)
	}
	for _, s := range []string{"1152921504606846976", "-1152921504606846977", "9223372036854775808", "18446744073709551616", "-18446744073709551616", strings.Repeat("9", api.MaxStr), "٩٩٩٩٩٩٩٩٩٩٩٩٩٩٩٩٩٩٩٩"} {
		refuses(t, ">int", values(str(s)), api.ErrLarge)
	}
}
