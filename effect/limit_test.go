package effect_test

import (
	"math"
	"slices"
	"strings"
	"testing"

	"quire/api"
	"quire/effect"
)

func times(n int, item api.Item) []api.Item { return slices.Repeat(items(item), n) }

// through answers a source of which so many items are gone through, which takes and leaves nothing. It is of at most 300 items.
func through(t *testing.T, n int) string {
	t.Helper()
	const each = 100
	turns, rest := max(0, n-2)/(each+2), max(0, n-2)%(each+2)
	if n < 2 {
		return many(n, "none")
	}
	return "[ " + many(each, "none") + "] " + many(turns, "dup call") + "drop " + many(rest, "none")
}

// P9.1: MaxItems

func TestItemsGoneThrough(t *testing.T) {
	for _, n := range []int{0, 1, 2, 3, 103, 104, 1024, api.MaxItems - 1, api.MaxItems} {
		has(t, through(t, n), 0, 0)
		has(t, "[ "+through(t, max(0, n-2))+"] call", 0, 0)
	}
	for _, n := range []int{1, 2, 3, 100, 102, 103, 5000, 12000} {
		fails(t, through(t, api.MaxItems+n), api.ErrLarge)
	}
}

// Each item is counted as often as it is gone through, within own effects, too, and the word that does so, and what it takes.
func TestItemsOfEachWord(t *testing.T) {
	for _, c := range []struct {
		ahead, behind string
		beside        int // items that are gone through beside those within
		in, out       int
	}{
		{"[ ", "] call", 2, 0, 0},
		{"1 [ ", "] dip", 3, 0, 1},
		{"1 [ ", "] keep", 3, 0, 2},
		{"t [ ", "] when", 3, 0, 0},
		{"9 [ ", "] times", 3, 0, 0},
		{"t [ ", "] [ ] if", 4, 0, 0},
		{"t [ ] [ ", "] if", 4, 0, 0},
		{"t [ 1 ] [ ", "1 ] if", 6, 0, 1},
		{"[ ", "f ] loop", 3, 0, 0},
		{"{ } [ drop ", "] each", 4, 0, 0},
		{"t [ t [ ", "] when ] when", 6, 0, 0},
		{"t [ [ ", "] call ] [ ] if", 6, 0, 0},
	} {
		n := api.MaxItems - c.beside
		has(t, c.ahead+through(t, n)+c.behind, c.in, c.out)
		fails(t, c.ahead+through(t, n+1)+c.behind, api.ErrLarge)
	}
	half := (api.MaxItems - 4) / 2
	has(t, "t [ "+through(t, half)+"] [ "+through(t, half)+"] if", 0, 0)
	has(t, "t [ "+through(t, half-1)+"] [ "+through(t, half+1)+"] if", 0, 0)
	fails(t, "t [ "+through(t, half+1)+"] [ "+through(t, half)+"] if", api.ErrLarge)
	fails(t, "t [ "+through(t, half)+"] [ "+through(t, half+1)+"] if", api.ErrLarge)
	has(t, "t [ "+through(t, half)+"] dup if", 0, 0)
	fails(t, "t [ "+through(t, half+1)+"] dup if", api.ErrLarge)
}

// Quotations that are not called are one item each.
func TestItemsThatAreNotGoneThrough(t *testing.T) {
	has(t, "[ "+many(700, "foo")+"] "+many(100, "dup drop")+"drop", 0, 0)
}

// Of the item that is one too many itself: a name that is none comes first, an effect that does not fit last.
func TestFaultsAtTheLastItem(t *testing.T) {
	last, behind := through(t, api.MaxItems-1), through(t, api.MaxItems)
	has(t, last+"1", 0, 1)
	fails(t, last+"foo", api.ErrName)
	fails(t, last+"call", api.ErrEffect)
	fails(t, last+"1 foo", api.ErrName)
	fails(t, last+"1 call", api.ErrLarge)
	fails(t, last+"1 none foo", api.ErrLarge)
	fails(t, behind+"1", api.ErrLarge)
	fails(t, behind+"dup", api.ErrLarge)
	fails(t, behind+"sq", api.ErrLarge)
	fails(t, behind+"foo", api.ErrName)
	fails(t, behind+"call", api.ErrLarge)
	fails(t, behind+"none foo", api.ErrLarge)
	fails(t, behind+"call foo", api.ErrLarge)
	fails(t, "t [ "+through(t, api.MaxItems)+"] [ 1 ] if", api.ErrLarge)
	fails(t, "t [ 1 ] [ "+through(t, api.MaxItems)+"] if", api.ErrLarge)
	fails(t, "t [ "+through(t, api.MaxItems-5)+"] [ 1 ] if", api.ErrEffect)
	fails(t, "t [ "+through(t, api.MaxItems-4)+"] [ 1 ] if", api.ErrLarge)
}

// Items that would be gone through without an end, or too often to wait for.
func TestItemsWithoutAnEnd(t *testing.T) {
	fails(t, "[ dup call ] dup call", api.ErrLarge)
	fails(t, "[ dup call 1 ] dup call", api.ErrLarge)
	fails(t, "[ 1 swap dup call ] dup call", api.ErrLarge)
	fails(t, "[ more rot dup call ] dup call", api.ErrEffect)
	fails(t, "[ dup keep ] dup keep", api.ErrLarge)
	fails(t, "[ [ ] swap dup call ] dup call", api.ErrLarge)
	twice := "none"
	for range 30 {
		twice = "[ " + twice + " ] dup [ call ] dip call"
	}
	fails(t, twice, api.ErrLarge)
	chosen := "none"
	for range 30 {
		chosen = "t [ " + chosen + " ] dup if"
	}
	fails(t, chosen, api.ErrLarge)
}

// P9.1: MaxArgs

func TestArgs(t *testing.T) {
	has(t, many(16, "1"), 0, 16)
	fails(t, many(17, "1"), api.ErrLarge)
	has(t, many(17, "1")+"drop", 0, 16)
	has(t, many(500, "1")+many(484, "drop"), 0, 16)
	fails(t, many(500, "1")+many(483, "drop"), api.ErrLarge)
	has(t, many(16, "drop"), 16, 0)
	fails(t, many(17, "drop"), api.ErrLarge)
	fails(t, many(17, "drop")+many(17, "1"), api.ErrLarge)
	has(t, many(16, "drop")+many(16, "1"), 16, 16)
	fails(t, many(17, "drop")+many(16, "1"), api.ErrLarge)
	fails(t, many(16, "drop")+many(17, "1"), api.ErrLarge)
	has(t, many(30, "more")+many(30, "less"), 0, 0)
	fails(t, many(30, "less")+many(30, "more"), api.ErrLarge)
	fails(t, many(1000, "more"), api.ErrLarge)
	fails(t, many(1000, "less"), api.ErrLarge)
	has(t, many(15, "dup"), 1, 16)
	fails(t, many(16, "dup"), api.ErrLarge)
	has(t, many(15, "+"), 16, 1)
	fails(t, many(16, "+"), api.ErrLarge)
	fails(t, "[ ] [ all ] if", api.ErrLarge)
}

// An own effect is not bounded, but by what there is in the end.
func TestArgsOfOwnEffects(t *testing.T) {
	has(t, many(40, "1")+"t [ "+many(40, "drop")+"] [ less less "+many(8, "drop")+"] if", 0, 0)
	has(t, many(40, "1")+"t [ "+many(40, "drop")+many(40, "1")+"] when "+many(40, "drop"), 0, 0)
	has(t, many(40, "1")+"9 [ "+many(40, "drop")+many(40, "1")+"] times "+many(40, "drop"), 0, 0)
	has(t, many(40, "1")+"[ "+many(40, "drop")+many(41, "1")+"] loop "+many(40, "drop"), 0, 0)
	has(t, many(40, "1")+"{ } [ "+many(41, "drop")+many(40, "1")+"] each "+many(40, "drop"), 0, 0)
	has(t, "t [ more more ] [ "+many(32, "1")+"] if less less", 0, 0)
	has(t, "[ more more ] call less less", 0, 0)
	has(t, "1 [ more more less less ] dip", 0, 1)
	has(t, "1 [ ] [ all ] if", 16, 16)
	fails(t, "t [ "+many(17, "drop")+many(17, "1")+"] when", api.ErrLarge)
	fails(t, "t [ ] [ "+many(17, "drop")+many(17, "1")+"] if", api.ErrLarge)
}

// P9.1: what is handed in

type falseItem struct{ api.Item }
type falseCall struct{ api.Call }

// refused holds that items are not sound, whatever else is at fault, and wherever they stand.
func refused(t *testing.T, wrong ...api.Item) {
	t.Helper()
	for _, list := range [][]api.Item{wrong, append(items(call("foo")), wrong...), append(slices.Clone(wrong), call("call")), items(push(quot(wrong...))), items(push(list(quot(wrong...))), call("drop"))} {
		for _, known := range [][]api.Known{nil, words()} {
			if x, e := effect.Of(list, known); x != (api.Effect{}) || e != api.ErrForm {
				t.Errorf("Of(%d items): %v, %d", len(list), x, e)
			}
		}
	}
}

func TestItemsThatAreNotSound(t *testing.T) {
	for _, item := range []api.Item{nil, &api.Push{V: num(1)}, &api.Call{Name: "dup"}, (*api.Push)(nil), (*api.Call)(nil), falseItem{}, falseItem{call("dup")}, falseCall{api.Call{Name: "dup"}}, api.Push{}, api.Call{}} {
		refused(t, item)
	}
	for _, v := range []api.Value{nil, &api.Int{}, (*api.Quot)(nil), &api.Quot{}, num(api.MaxInt + 1), num(api.MinInt - 1), api.Str{S: "\xff"}, api.Str{S: strings.Repeat("a", api.MaxStr+1)}, api.Box{}, api.Box{N: api.MaxBoxes + 1}, list(nil), quot(nil)} {
		refused(t, push(v))
	}
	for _, name := range []string{"", ":", ";", "(", ")", "--", "[", "]", "{", "}", "t", "f", "1", "-1", "!", `"a`, "a b", "\xff", strings.Repeat("a", api.MaxName+1)} {
		refused(t, call(name))
	}
}

func TestItemsThatAreTooLarge(t *testing.T) {
	const most = api.MaxSize - 1
	half := slices.Repeat(items(push(num(1)), call("drop")), most/2)
	if x, e := effect.Of(append(half, call("none")), words()); x != (api.Effect{}) || e != api.OK {
		t.Errorf("Of(%d items): %v, %d", most, x, e)
	}
	refused(t, times(most+1, call("none"))...)
	refused(t, times(most+1, call("foo"))...)
	refused(t, times(1<<20, call("none"))...)
	deep := quot()
	for range api.MaxNest - 2 {
		deep = quot(push(deep))
	}
	if x, e := effect.Of(items(push(deep)), nil); x != (api.Effect{Out: 1}) || e != api.OK {
		t.Errorf("Of(a deep quotation): %v, %d", x, e)
	}
	refused(t, push(quot(push(deep))))
	round := items(nil, call("call"))
	round[0] = push(api.Quot{Items: round})
	refused(t, round...)
}

// A known effect has to be one, be the word called or not, and be it one that counts or not.
func TestKnownWordsThatAreNone(t *testing.T) {
	for _, wrong := range []int{-1, api.MaxArgs + 1, math.MinInt, math.MaxInt} {
		for _, x := range []api.Effect{{In: wrong}, {Out: wrong}, {In: wrong, Out: 1}, {In: 1, Out: wrong}, {In: wrong, Out: wrong}, {In: api.MaxArgs, Out: wrong}} {
			for _, name := range []string{"a", "b", "dup", "call", "", "t", "1", "\xff"} {
				for _, known := range [][]api.Known{{{Name: name, Effect: x}}, {known("a", 1, 1), {Name: name, Effect: x}}, {{Name: name, Effect: x}, known("a", 1, 1)}} {
					for _, list := range [][]api.Item{nil, items(call("a")), items(call("foo")), items(call("call")), items(nil)} {
						if y, e := effect.Of(list, known); y != (api.Effect{}) || e != api.ErrForm {
							t.Errorf("Of(%d items) with %v: %v, %d", len(list), known, y, e)
						}
					}
				}
			}
		}
	}
	for in := range api.MaxArgs + 1 {
		for out := range api.MaxArgs + 1 {
			if x, e := effect.Of(items(call("a")), []api.Known{known("a", in, out)}); x != (api.Effect{In: in, Out: out}) || e != api.OK {
				t.Errorf("Of(a): %v, %d, want %d, %d", x, e, in, out)
			}
		}
	}
}

// Names of known words that no item can call are no fault.
func TestKnownWordsThatNobodyCalls(t *testing.T) {
	all := []api.Known{known("", 1, 1), known("t", 1, 1), known("[", 1, 1), known("12", 1, 1), known("\xff", 1, 1), known("dup", 0, 0), known("call", 0, 0), known(strings.Repeat("a", 1<<16), 1, 1), known("a", 2, 1)}
	for i := range 5000 {
		all = append(all, known(strings.Repeat("b", 1+i%40), i%17, i%17))
	}
	if x, e := effect.Of(items(call("a"), call("dup")), all); x != (api.Effect{In: 2, Out: 2}) || e != api.OK {
		t.Errorf("Of(a dup): %v, %d", x, e)
	}
}
