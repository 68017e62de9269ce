package prim_test

import (
	"slices"
	"strings"
	"testing"

	"quire/api"
)

// P12.2: values that come out and would be too large

// nested answers a value of so many lists and quotations within one another around some value.
func nested(deep int, inner api.Value) api.Value {
	for i := range deep {
		if i%2 == 0 {
			inner = list(inner)
		} else {
			inner = quot(push(inner))
		}
	}
	return inner
}

// listOf and quotOf answer one of a size.
func listOf(size int) api.Value { return list(alike(size-1, num(1))...) }

func quotOf(size int) api.Value { return quot(codeOf(size - 1)...) }

func codeOf(n int) []api.Item { return slices.Repeat([]api.Item{call("a")}, n) }

func TestBytesOfTexts(t *testing.T) {
	a, b := strings.Repeat("a", api.MaxStr), strings.Repeat("é", api.MaxStr/2)
	gives(t, "append", values(str(a), str("")), values(str(a)))
	gives(t, "append", values(str(""), str(b)), values(str(b)))
	gives(t, "append", values(str(a[1:]), str("x")), values(str(a[1:]+"x")))
	gives(t, "append", values(str("é"), str(b[2:])), values(str(b)))
	gives(t, "append", values(str(a[:api.MaxStr/2]), str(a[:api.MaxStr/2])), values(str(a)))
	refuses(t, "append", values(str(a), str("x")), api.ErrLarge)
	refuses(t, "append", values(str("x"), str(a)), api.ErrLarge)
	refuses(t, "append", values(str(a[1:]), str("é")), api.ErrLarge)
	refuses(t, "append", values(str(b), str(b)), api.ErrLarge)
}

// A text that is told has quotes around it, and more bytes where it has a \.
func TestBytesOfWhatIsTold(t *testing.T) {
	for _, c := range []struct {
		one  string
		told string
	}{{"a", "a"}, {"語", "語"}, {"\n", `\n`}, {`"`, `\"`}, {`\`, `\\`}} {
		n := (api.MaxStr - 2) / len(c.told)
		gives(t, ">str", values(str(strings.Repeat(c.one, n))), values(str(`"`+strings.Repeat(c.told, n)+`"`)))
		refuses(t, ">str", values(str(strings.Repeat(c.one, n+1))), api.ErrLarge)
	}
	a := strings.Repeat("a", api.MaxStr)
	refuses(t, ">str", values(str(a)), api.ErrLarge)
	refuses(t, ">str", values(str(a[1:])), api.ErrLarge)
	gives(t, ">str", values(str(a[2:])), values(str(`"`+a[2:]+`"`)))
	gives(t, ">str", values(list(str(a[6:]))), values(str(`{ "`+a[6:]+`" }`)))
	refuses(t, ">str", values(list(str(a[5:]))), api.ErrLarge)
	gives(t, ">str", values(listOf(api.MaxSize)), values(str("{ "+strings.Repeat("1 ", api.MaxSize-1)+"}")))
	// Four bytes for each value, and one more than that for one of them; the brackets have three.
	four := alike(api.MaxSize-1, num(100))
	gives(t, ">str", values(api.List{Items: four}), values(str("{ "+strings.Repeat("100 ", api.MaxSize-1)+"}")))
	five := append(slices.Clone(four), nil)[:len(four)]
	five[3], five[9] = num(1000), num(1)
	gives(t, ">str", values(api.List{Items: five}), values(str("{ 100 100 100 1000 100 100 100 100 100 1 "+strings.Repeat("100 ", api.MaxSize-11)+"}")))
	five[9] = num(1000)
	refuses(t, ">str", values(api.List{Items: five}), api.ErrLarge)
	refuses(t, ">str", values(api.List{Items: alike(api.MaxSize-1, str(strings.Repeat("\n", api.MaxStr)))}), api.ErrLarge)
	refuses(t, ">str", values(quot(slices.Repeat([]api.Item{call("abcd")}, api.MaxSize-1)...)), api.ErrLarge)
}

func TestSizes(t *testing.T) {
	half := api.MaxSize / 2
	gives(t, "append", values(listOf(half), listOf(half+1)), values(listOf(api.MaxSize)))
	gives(t, "append", values(listOf(api.MaxSize), list()), values(listOf(api.MaxSize)))
	gives(t, "append", values(quotOf(half+1), quotOf(half)), values(quotOf(api.MaxSize)))
	gives(t, "compose", values(quotOf(half+1), quotOf(half)), values(quotOf(api.MaxSize)))
	gives(t, "compose", values(quot(), quotOf(api.MaxSize)), values(quotOf(api.MaxSize)))
	gives(t, "curry", values(num(1), quotOf(api.MaxSize-1)), values(quot(append([]api.Item{push(num(1))}, codeOf(api.MaxSize-2)...)...)))
	gives(t, "curry", values(listOf(half), quotOf(half)), values(quot(append([]api.Item{push(listOf(half))}, codeOf(half-1)...)...)))
	gives(t, "wrap", values(listOf(api.MaxSize-1)), values(list(listOf(api.MaxSize-1))))
	gives(t, "pair", values(listOf(half), quotOf(half-1)), values(list(listOf(half), quotOf(half-1))))
	refuses(t, "append", values(listOf(half+1), listOf(half+1)), api.ErrLarge)
	refuses(t, "append", values(listOf(api.MaxSize), list(num(1))), api.ErrLarge)
	refuses(t, "append", values(list(num(1)), listOf(api.MaxSize)), api.ErrLarge)
	refuses(t, "append", values(listOf(api.MaxSize), listOf(api.MaxSize)), api.ErrLarge)
	refuses(t, "append", values(quotOf(half+1), quotOf(half+1)), api.ErrLarge)
	refuses(t, "compose", values(quotOf(half+1), quotOf(half+1)), api.ErrLarge)
	refuses(t, "compose", values(quotOf(api.MaxSize), quot(call("a"))), api.ErrLarge)
	refuses(t, "curry", values(num(1), quotOf(api.MaxSize)), api.ErrLarge)
	refuses(t, "curry", values(listOf(half), quotOf(half+1)), api.ErrLarge)
	refuses(t, "curry", values(listOf(api.MaxSize), quot()), api.ErrLarge)
	refuses(t, "wrap", values(listOf(api.MaxSize)), api.ErrLarge)
	refuses(t, "wrap", values(quotOf(api.MaxSize)), api.ErrLarge)
	refuses(t, "pair", values(listOf(half), quotOf(half)), api.ErrLarge)
	refuses(t, "pair", values(num(1), quotOf(api.MaxSize-1)), api.ErrLarge)
}

func TestDepths(t *testing.T) {
	deep, deeper := nested(api.MaxNest-1, num(1)), nested(api.MaxNest, num(1))
	gives(t, "wrap", values(deep), values(list(deep)))
	gives(t, "pair", values(deep, num(1)), values(list(deep, num(1))))
	gives(t, "pair", values(num(1), deep), values(list(num(1), deep)))
	gives(t, "curry", values(deep, quot()), values(quot(push(deep))))
	gives(t, "curry", values(num(1), quot(push(deep))), values(quot(push(num(1)), push(deep))))
	gives(t, "append", values(list(deep), list(deep)), values(list(deep, deep)))
	gives(t, "compose", values(quot(push(deep)), quot(push(deep))), values(quot(push(deep), push(deep))))
	gives(t, "dup", values(deeper), values(deeper, deeper))
	gives(t, "unpair", values(list(deep, num(1))), values(deep, num(1)))
	gives(t, "nth", values(num(0), list(deep)), values(deep))
	for _, v := range []api.Value{deeper, nested(api.MaxNest-1, list()), nested(api.MaxNest-1, quot(call("a")))} {
		refuses(t, "wrap", values(v), api.ErrLarge)
		refuses(t, "pair", values(v, num(1)), api.ErrLarge)
		refuses(t, "pair", values(num(1), v), api.ErrLarge)
		refuses(t, "curry", values(v, quot()), api.ErrLarge)
		refuses(t, "curry", values(v, quot(call("a"))), api.ErrLarge)
	}
}

// What is as large as it can be is moved, and taken apart, all the same.
func TestLargeValues(t *testing.T) {
	text := str(strings.Repeat("a", api.MaxStr))
	for _, v := range []api.Value{listOf(api.MaxSize), quotOf(api.MaxSize), text, nested(api.MaxNest, num(1)), list(alike(api.MaxSize-1, text)...)} {
		gives(t, "dup", values(v), values(v, v))
		gives(t, "rot", values(v, v, num(1)), values(v, num(1), v))
		gives(t, "tuck", values(num(1), v), values(v, num(1), v))
		gives(t, "=", values(v, v), values(flag(true)))
	}
	gives(t, "reverse", values(listOf(api.MaxSize)), values(listOf(api.MaxSize)))
	gives(t, "reverse", values(text), values(text))
	gives(t, "slice", values(num(0), num(api.MaxStr), text), values(text))
	gives(t, "slice", values(num(1), num(api.MaxSize-1), listOf(api.MaxSize)), values(listOf(api.MaxSize-1)))
	gives(t, "nth", values(num(api.MaxStr-1), text), values(str("a")))
}
