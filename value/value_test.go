package value_test

import (
	"fmt"
	"math"
	"slices"
	"strings"
	"testing"

	"quire/api"
	"quire/value"
)

func call(name string) api.Item             { return api.Call{Name: name} }
func push(v api.Value) api.Item             { return api.Push{V: v} }
func num(n int64) api.Value                 { return api.Int{N: n} }
func str(s string) api.Value                { return api.Str{S: s} }
func flag(b bool) api.Value                 { return api.Bool{B: b} }
func box(n int) api.Value                   { return api.Box{N: n} }
func list(items ...api.Value) api.Value     { return api.List{Items: items} }
func quot(items ...api.Item) api.Value      { return api.Quot{Items: items} }
func items(list ...api.Item) []api.Item     { return list }
func values(list ...api.Value) []api.Value  { return list }
func times(n int, item api.Item) []api.Item { return slices.Repeat(items(item), n) }
func alike(n int, v api.Value) []api.Value  { return slices.Repeat(values(v), n) }

// tell writes down all that a value holds. Lists without anything in them are told as one, be they nil or not.
func tell(v api.Value) string {
	switch x := v.(type) {
	case api.List:
		var parts []string
		for _, v := range x.Items {
			parts = append(parts, tell(v))
		}
		return "List(" + strings.Join(parts, " ") + ")"
	case api.Quot:
		var parts []string
		for _, item := range x.Items {
			parts = append(parts, tellItem(item))
		}
		return "Quot(" + strings.Join(parts, " ") + ")"
	}
	return fmt.Sprintf("%#v", v)
}

func tellItem(item api.Item) string {
	if p, ok := item.(api.Push); ok {
		return "Push(" + tell(p.V) + ")"
	}
	return fmt.Sprintf("%#v", item)
}

// short cuts a long text for a message.
func short(s string) string {
	if len(s) > 80 {
		return s[:80] + " .."
	}
	return s
}

// is holds all that is told of a sound value.
func is(t *testing.T, v api.Value, size, depth int, text string, boxes ...int) {
	t.Helper()
	told := short(text)
	if e := value.Check(v); e != api.OK {
		t.Errorf("Check(%s): %d", told, e)
	}
	if n, e := value.Size(v); n != size || e != api.OK {
		t.Errorf("Size(%s): %d, %d, want %d", told, n, e, size)
	}
	if n, e := value.Depth(v); n != depth || e != api.OK {
		t.Errorf("Depth(%s): %d, %d, want %d", told, n, e, depth)
	}
	if s, e := value.Text(v); s != text || e != api.OK {
		t.Errorf("Text(%s): %q, %d", told, short(s), e)
	}
	if c, e := value.Copy(v); tell(c) != tell(v) || e != api.OK {
		t.Errorf("Copy(%s): %s, %d", told, short(tell(c)), e)
	}
	if same, e := value.Equal(v, v); !same || e != api.OK {
		t.Errorf("Equal(%s, itself): %t, %d", told, same, e)
	}
	it, e := value.Boxes(v)
	if it == nil {
		t.Fatalf("Boxes(%s): nil, %d", told, e)
	}
	if got := slices.Collect(it); !slices.Equal(got, boxes) || e != api.OK {
		t.Errorf("Boxes(%s): %v, %d, want %v", told, got, e, boxes)
	}
}

// sound holds that no call refuses a value.
func sound(t *testing.T, v api.Value) {
	t.Helper()
	e := []api.Errno{value.Check(v)}
	add := func(one api.Errno) { e = append(e, one) }
	_, one := value.Equal(v, v)
	add(one)
	_, one = value.Size(v)
	add(one)
	_, one = value.Depth(v)
	add(one)
	_, one = value.Text(v)
	add(one)
	_, one = value.Copy(v)
	add(one)
	_, one = value.Boxes(v)
	add(one)
	if slices.Max(e) != api.OK {
		t.Errorf("Check, Equal, Size, Depth, Text, Copy, Boxes of %T: %d", v, e)
	}
}

// refused holds that every call but the Musts refuses a value, and answers nothing beside the error.
func refused(t *testing.T, v api.Value) {
	t.Helper()
	if e := value.Check(v); e != api.ErrForm {
		t.Errorf("Check of %T: %d", v, e)
	}
	for _, pair := range [][2]api.Value{{v, v}, {v, num(1)}, {num(1), v}, {v, list()}, {list(), v}, {v, nil}} {
		if same, e := value.Equal(pair[0], pair[1]); same || e != api.ErrForm {
			t.Errorf("Equal of %T and %T: %t, %d", pair[0], pair[1], same, e)
		}
	}
	if n, e := value.Size(v); n != 0 || e != api.ErrForm {
		t.Errorf("Size of %T: %d, %d", v, n, e)
	}
	if n, e := value.Depth(v); n != 0 || e != api.ErrForm {
		t.Errorf("Depth of %T: %d, %d", v, n, e)
	}
	if s, e := value.Text(v); s != "" || e != api.ErrForm {
		t.Errorf("Text of %T: %q, %d", v, short(s), e)
	}
	if c, e := value.Copy(v); c != nil || e != api.ErrForm {
		t.Errorf("Copy of %T: %T, %d", v, c, e)
	}
	it, e := value.Boxes(v)
	if it == nil || e != api.ErrForm {
		t.Fatalf("Boxes of %T: %d, the iterator is nil: %t", v, e, it == nil)
	}
	for n := range it {
		t.Errorf("Boxes of %T: %d", v, n)
	}
}

// soundAnywhere and refusedAnywhere hold it wherever the value stands.
func soundAnywhere(t *testing.T, v api.Value) {
	t.Helper()
	for _, v := range []api.Value{v, list(v), list(num(1), v, box(2)), quot(push(v)), quot(call("a"), push(list(v)), call("b"))} {
		sound(t, v)
		checksItems(t, api.OK, call("a"), push(v))
	}
}

func refusedAnywhere(t *testing.T, v api.Value) {
	t.Helper()
	for _, v := range []api.Value{v, list(v), list(num(1), box(2), v), list(v, num(1)), quot(push(v)), quot(call("a"), push(list(v)), call("b"))} {
		refused(t, v)
		checksItems(t, api.ErrForm, call("a"), push(v))
		checksItems(t, api.ErrForm, push(v), call("a"))
	}
}

func checksItems(t *testing.T, want api.Errno, list ...api.Item) {
	t.Helper()
	if e := value.CheckItems(list); e != want {
		t.Errorf("CheckItems of %d items: %d, want %d", len(list), e, want)
	}
	if e := value.Check(api.Quot{Items: list}); e != want {
		t.Errorf("Check of a quotation of %d items: %d, want %d", len(list), e, want)
	}
}

func soundItem(t *testing.T, item api.Item) {
	t.Helper()
	checksItems(t, api.OK, item)
	checksItems(t, api.OK, call("a"), item, push(num(1)))
	soundAnywhere(t, quot(item))
}

func refusedItem(t *testing.T, item api.Item) {
	t.Helper()
	checksItems(t, api.ErrForm, item)
	checksItems(t, api.ErrForm, call("a"), item, push(num(1)))
	refusedAnywhere(t, quot(item))
}

func TestExamples(t *testing.T) {
	is(t, list(num(1), str("a"), quot(call("dup")), box(3)), 6, 2, `{ 1 "a" [ dup ] box }`, 3)
	is(t, list(), 1, 1, "{ }")
	if same, e := value.Equal(num(1), flag(true)); same || e != api.OK {
		t.Errorf("Equal(1, t): %t, %d", same, e)
	}
	refused(t, str("\xff"))
	refused(t, &api.Int{})
}

// P8.1

func TestNumbers(t *testing.T) {
	for _, n := range []int64{0, 1, -1, api.MaxInt, api.MinInt} {
		soundAnywhere(t, num(n))
	}
	for _, n := range []int64{api.MaxInt + 1, api.MinInt - 1, math.MaxInt64, math.MinInt64} {
		refusedAnywhere(t, num(n))
	}
}

func TestStrings(t *testing.T) {
	for _, s := range []string{"", "a", "\x00", "\n\"\\", "\ufffd", "語", strings.Repeat("a", api.MaxStr), strings.Repeat("\n", api.MaxStr), strings.Repeat("語", api.MaxStr/3) + "a"} {
		soundAnywhere(t, str(s))
	}
	for _, s := range []string{"\xff", "a\xc3", "\xed\xa0\x80", "\xf4\x90\x80\x80", "\xc0\x80", strings.Repeat("a", api.MaxStr+1), strings.Repeat("語", api.MaxStr/3) + "é", strings.Repeat("a", 1<<20)} {
		refusedAnywhere(t, str(s))
	}
}

func TestFlags(t *testing.T) {
	soundAnywhere(t, flag(true))
	soundAnywhere(t, flag(false))
}

func TestNumbersOfBoxes(t *testing.T) {
	for _, n := range []int{1, 2, 77, api.MaxBoxes} {
		soundAnywhere(t, box(n))
	}
	for _, n := range []int{0, -1, api.MaxBoxes + 1, math.MaxInt, math.MinInt} {
		refusedAnywhere(t, box(n))
	}
}

func TestNames(t *testing.T) {
	for _, s := range []string{"a", "dup", "foo", "::", "---", "-", "!a", `a"`, "tt", "T", "F", "box", "1٣", "語", strings.Repeat("語", api.MaxName)} {
		soundItem(t, call(s))
	}
	reserved := []string{":", ";", "(", ")", "--", "[", "]", "{", "}", "t", "f"}
	numbers := []string{"1", "-1", "007", "−٣", "１２", "99999999999999999999"}
	none := []string{"", "!", `"`, `"a"`, "a b", " a", "a\n", "a\u3000", "a\u00a0", "\x01", "\x7f", "\ufffd", "a\xff", "\xff", strings.Repeat("a", api.MaxName+1), strings.Repeat("a", 1<<20)}
	for _, s := range slices.Concat(reserved, numbers, none) {
		refusedItem(t, call(s))
	}
}

type falseValue struct{ api.Value }
type falseItem struct{ api.Item }
type falseInt struct{ api.Int }
type falseCall struct{ api.Call }

func TestWhatIsNoValue(t *testing.T) {
	for _, v := range []api.Value{nil, &api.Int{}, &api.Str{}, &api.Bool{}, &api.List{}, &api.Quot{}, &api.Box{N: 1}, (*api.Int)(nil), (*api.Str)(nil), (*api.Bool)(nil), (*api.List)(nil), (*api.Quot)(nil), (*api.Box)(nil), falseValue{}, falseValue{num(1)}, falseInt{}, &falseInt{}} {
		refusedAnywhere(t, v)
	}
}

func TestWhatIsNoItem(t *testing.T) {
	for _, item := range []api.Item{nil, &api.Push{V: num(1)}, &api.Call{Name: "a"}, (*api.Push)(nil), (*api.Call)(nil), falseItem{}, falseItem{call("a")}, &falseItem{}, falseCall{api.Call{Name: "a"}}, api.Push{}, api.Call{}} {
		refusedItem(t, item)
	}
}

func TestNoItems(t *testing.T) {
	checksItems(t, api.OK)
	checksItems(t, api.OK, []api.Item{}...)
}

// P8.2

func TestSmallValues(t *testing.T) {
	is(t, num(0), 1, 0, "0")
	is(t, num(-12), 1, 0, "-12")
	is(t, num(api.MaxInt), 1, 0, "1152921504606846975")
	is(t, num(api.MinInt), 1, 0, "-1152921504606846976")
	is(t, str(""), 1, 0, `""`)
	is(t, str("a b"), 1, 0, `"a b"`)
	is(t, str("\n\"\\語\t[ "), 1, 0, "\"\\n\\\"\\\\語\t[ \"")
	is(t, flag(true), 1, 0, "t")
	is(t, flag(false), 1, 0, "f")
	is(t, box(1), 1, 0, "box", 1)
	is(t, box(api.MaxBoxes), 1, 0, "box", api.MaxBoxes)
	is(t, list(), 1, 1, "{ }")
	is(t, api.List{Items: []api.Value{}}, 1, 1, "{ }")
	is(t, quot(), 1, 1, "[ ]")
	is(t, api.Quot{Items: []api.Item{}}, 1, 1, "[ ]")
}

func TestLists(t *testing.T) {
	is(t, list(num(1)), 2, 1, "{ 1 }")
	is(t, list(num(1), str("a"), flag(true), box(4)), 5, 1, `{ 1 "a" t box }`, 4)
	is(t, list(list(), list()), 3, 2, "{ { } { } }")
	is(t, list(list(num(1)), num(2)), 4, 2, "{ { 1 } 2 }")
	is(t, list(num(1), list(list(), num(2)), num(3)), 6, 3, "{ 1 { { } 2 } 3 }")
	is(t, list(quot(), quot(call("a"), call("b"))), 5, 2, "{ [ ] [ a b ] }")
}

func TestQuotations(t *testing.T) {
	is(t, quot(call("dup")), 2, 1, "[ dup ]")
	is(t, quot(push(num(1)), call("+")), 3, 1, "[ 1 + ]")
	is(t, quot(push(box(2))), 2, 1, "[ box ]", 2)
	is(t, quot(call("box")), 2, 1, "[ box ]")
	is(t, quot(push(quot())), 2, 2, "[ [ ] ]")
	is(t, quot(push(list(num(1))), call("a"), push(quot(call("b"), push(str("s"))))), 7, 2, `[ { 1 } a [ b "s" ] ]`)
	is(t, quot(push(list(quot(push(list()))))), 4, 4, "[ { [ { } ] } ]")
}

func TestOrderOfBoxes(t *testing.T) {
	v := list(box(5), quot(push(box(3)), call("a"), push(list(box(5), num(9), box(1)))), list(), box(4), quot(push(box(4))))
	is(t, v, 13, 3, "{ box [ box a { box 9 box } ] { } box [ box ] }", 5, 3, 5, 1, 4, 4)
	is(t, list(num(1), quot(call("box"), push(str("box")))), 5, 2, `{ 1 [ box "box" ] }`)
}

// different answers values of which no two are equal, made anew at each call.
func different() []api.Value {
	return []api.Value{
		num(0), num(1), num(-1), num(api.MaxInt), num(api.MinInt),
		str(""), str("0"), str("1"), str("t"), str("a"), str("a "), str("A"), str("é"), str("e\u0301"), str("{ }"), str("box"),
		flag(false), flag(true),
		box(1), box(2), box(api.MaxBoxes),
		list(), list(num(0)), list(num(1)), list(num(1), num(2)), list(num(2), num(1)), list(num(1), num(2), num(3)), list(flag(true)), list(str("1")), list(box(1)), list(box(2)),
		list(list()), list(list(), list()), list(list(list())), list(quot()), list(list(num(1)), num(2)), list(num(1), list(num(2))), list(list(num(1), num(2))),
		quot(), quot(push(num(0))), quot(push(num(1))), quot(push(num(1)), push(num(2))), quot(push(num(2)), push(num(1))), quot(push(flag(true))), quot(push(box(1))), quot(push(box(2))),
		quot(call("a")), quot(call("b")), quot(call("a"), call("b")), quot(call("b"), call("a")), quot(call("a"), call("b"), call("a")), quot(push(str("a"))), quot(push(str("a")), call("b")), quot(call("box")), quot(call("é")), quot(call("e\u0301")),
		quot(push(list())), quot(push(quot())), quot(push(quot()), push(quot())), quot(push(quot(call("a")))), quot(push(list(quot(call("a"))))), quot(push(list(num(1)))), quot(push(list(num(2)))), quot(push(list(num(1), num(1)))),
	}
}

func TestEqual(t *testing.T) {
	first, second := different(), different()
	for i, a := range first {
		for j, b := range second {
			if same, e := value.Equal(a, b); same != (i == j) || e != api.OK {
				t.Errorf("Equal(%s, %s): %t, %d", tell(a), tell(b), same, e)
			}
		}
	}
}

// Lists without anything in them are equal, be they nil or not, and spare room does not count.
func TestEqualOfLists(t *testing.T) {
	room := append(make([]api.Value, 0, 9), num(1), num(2), num(3))
	code := append(make([]api.Item, 0, 9), call("a"), call("b"))
	for _, pair := range [][2]api.Value{
		{api.List{}, api.List{Items: []api.Value{}}},
		{api.List{Items: room[:0]}, api.List{}},
		{api.Quot{}, api.Quot{Items: []api.Item{}}},
		{api.List{Items: room[:2]}, list(num(1), num(2))},
		{api.Quot{Items: code[:1]}, quot(call("a"))},
	} {
		for _, pair := range [][2]api.Value{pair, {pair[1], pair[0]}} {
			if same, e := value.Equal(pair[0], pair[1]); !same || e != api.OK {
				t.Errorf("Equal(%s, %s): %t, %d", tell(pair[0]), tell(pair[1]), same, e)
			}
		}
	}
}
