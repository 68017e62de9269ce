package prim_test

import (
	"math"
	"slices"
	"strings"
	"testing"

	"quire/api"
	"quire/prim"
)

// P12.2, R1, R2: what is refused, and with which error

// kinds answers a value or two of each kind, none of which makes a primitive refuse for anything but its kind, where it is wanted.
func kinds() map[string][]api.Value {
	return map[string][]api.Value{
		"int":  {num(0), num(1)},
		"str":  {str("12"), str("34")},
		"bool": {flag(true), flag(false)},
		"list": {list(num(1), num(2)), list(str("a"), list())},
		"quot": {quot(), quot(call("a"), push(num(1)))},
		"box":  {box(1), box(2)},
	}
}

// wanted answers the kinds that a letter of the table stands for.
func wanted(letter string) []string {
	switch letter {
	case "n", "m":
		return []string{"int"}
	case "b", "c":
		return []string{"bool"}
	case "l":
		return []string{"list"}
	case "q", "r":
		return []string{"quot"}
	case "s":
		return []string{"str", "list"}
	case "a":
		return []string{"str", "list", "quot"}
	}
	return []string{"int", "str", "bool", "list", "quot", "box"}
}

// fitting answers whether a primitive takes values of such kinds.
func (r row) fitting(of []string) bool {
	for i, letter := range r.takes() {
		if !slices.Contains(wanted(letter), of[i]) || r.name == ">int" && of[i] != "str" {
			return false
		}
	}
	return r.name != "append" || of[0] == of[1]
}

// everyKind calls a function with all lists of so many kinds.
func everyKind(n int, ahead []string, with func([]string)) {
	if n == 0 {
		with(ahead)
		return
	}
	for kind := range kinds() {
		everyKind(n-1, append(slices.Clone(ahead), kind), with)
	}
}

func TestKinds(t *testing.T) {
	for _, r := range table() {
		everyKind(len(r.takes()), nil, func(of []string) {
			var args []api.Value
			for i, kind := range of {
				args = append(args, kinds()[kind][min(i, 1)])
			}
			if !r.fitting(of) {
				refuses(t, r.name, args, api.ErrKind)
				return
			}
			// Numbers are 0, 1 and 1 here, so that they are fine for all words with numbers.
			got, e := prim.Do(r.name, args)
			if e != api.OK || len(got) != len(r.leaves()) {
				t.Errorf("Do(%q, %s): %s, %d", r.name, tellAll(args), tellAll(got), e)
			}
		})
	}
}

// An error of what a value is comes behind that of its kind, wherever each of them stands.
func TestKindsComeFirst(t *testing.T) {
	deep := nested(api.MaxNest, num(1))
	for _, c := range []struct {
		name string
		args []api.Value
	}{
		{"nth", values(num(9), quot())}, {"nth", values(num(-1), num(5))}, {"nth", values(str("a"), list())}, {"nth", values(flag(true), str(""))},
		{"slice", values(num(-1), str(""), str("a"))}, {"slice", values(str(""), num(9), str("a"))}, {"slice", values(num(2), num(1), quot())}, {"slice", values(list(), num(-1), list())},
		{"/", values(str("a"), num(0))}, {"mod", values(list(), num(0))}, {"/", values(num(0), list())},
		{"+", values(num(api.MaxInt), box(1))}, {"*", values(flag(true), num(api.MinInt))},
		{"unpair", values(quot(push(num(1))))}, {"unpair", values(str("a"))},
		{"curry", values(deep, list())}, {"curry", values(deep, num(1))},
		{"append", values(str(strings.Repeat("a", api.MaxStr)), list(alike(api.MaxSize-1, num(1))...))},
		{"append", values(num(1), str(strings.Repeat("a", api.MaxStr)))},
		{"compose", values(list(alike(api.MaxSize-1, num(1))...), quot(slices.Repeat([]api.Item{call("a")}, api.MaxSize-1)...))},
		{">int", values(num(5))}, {">int", values(list(str("x")))}, {"neg", values(str("-1152921504606846976"))},
	} {
		refuses(t, c.name, c.args, api.ErrKind)
	}
}

func TestTooFew(t *testing.T) {
	for _, r := range table() {
		for n := range len(r.takes()) {
			everyKind(n, nil, func(of []string) {
				var args []api.Value
				for _, kind := range of {
					args = append(args, kinds()[kind][0])
				}
				fails(t, r.name, args, api.ErrUnder)
			})
		}
		for _, none := range [][]api.Value{nil, {}, make([]api.Value, 0, 5)} {
			fails(t, r.name, none, api.ErrUnder)
		}
	}
}

func TestNamesThatAreNone(t *testing.T) {
	names := noPrimitives()
	for _, r := range others() {
		names = append(names, r.name)
	}
	for _, name := range names {
		fails(t, name, nil, api.ErrName)
		refuses(t, name, values(num(1), num(2), num(3)), api.ErrName)
		refuses(t, name, values(box(1)), api.ErrName)
		refuses(t, name, values(flag(true), quot(), quot()), api.ErrName)
	}
}

type falseValue struct{ api.Value }
type falseItem struct{ api.Item }
type falseInt struct{ api.Int }

// wrong answers values that are not sound.
func wrong() []api.Value {
	round := make([]api.Value, 2)
	round[0], round[1] = api.List{Items: round}, num(1)
	code := make([]api.Item, 1)
	code[0] = push(api.Quot{Items: code})
	return []api.Value{
		nil, &api.Int{}, &api.Str{}, &api.Bool{}, &api.List{}, &api.Quot{}, &api.Box{N: 1}, (*api.Int)(nil), (*api.Str)(nil), (*api.Bool)(nil), (*api.List)(nil), (*api.Quot)(nil), (*api.Box)(nil),
		falseValue{}, falseValue{num(1)}, falseInt{}, &falseInt{},
		num(api.MaxInt + 1), num(api.MinInt - 1), num(math.MaxInt64), num(math.MinInt64),
		str("\xff"), str("a\xc3"), str(strings.Repeat("a", api.MaxStr+1)),
		box(0), box(-1), box(api.MaxBoxes + 1), box(math.MinInt),
		list(nil), list(num(1), list(&api.Int{})), list(alike(api.MaxSize, num(1))...), nested(api.MaxNest+1, num(1)), nested(5000, num(1)),
		quot(nil), quot(push(nil)), quot(&api.Call{Name: "a"}), quot(&api.Push{V: num(1)}), quot(falseItem{call("a")}), quot(call("t")), quot(call("")), quot(call("12")), quot(push(list(str("\xff")))),
		api.List{Items: round}, api.Quot{Items: code},
	}
}

// A value that is not sound is told ahead of all, be there such a primitive or not, be there too few, and be it taken or not.
func TestWhatIsNotSound(t *testing.T) {
	names := append(prim.Names(), noPrimitives()[:6]...)
	for _, v := range wrong() {
		for _, name := range names {
			for _, args := range [][]api.Value{
				{v}, {v, v}, {v, v, v},
				{v, num(1), num(2), num(3)}, {v, flag(true), list(), quot()},
				{num(1), num(2), v}, {num(1), v, num(2)}, {num(1), v, str("a")}, {v, quot()}, {quot(), v},
			} {
				fails(t, name, args, api.ErrForm)
			}
		}
	}
}

// A stack may be of any height: no limit bounds it here.
func TestHighStacks(t *testing.T) {
	for _, n := range []int{api.MaxStack - 1, api.MaxStack, api.MaxStack + 1, 100000} {
		args := append(alike(n, num(3)), str("a"))
		got, e := prim.Do("dup", args)
		if e != api.OK || tellAll(got) != tellAll(append(args, str("a"))) {
			t.Errorf("dup of %d values: %d values, %d", len(args), len(got), e)
		}
		fails(t, "+", args, api.ErrKind)
		fails(t, "foo", args, api.ErrName)
		fails(t, "drop", append(values(nil), args...), api.ErrForm)
	}
}
