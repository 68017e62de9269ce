package parse_test

import (
	"math"
	"math/rand"
	"slices"
	"strconv"
	"strings"
	"testing"

	"quire/api"
	"quire/lex"
	"quire/parse"
)

func writes(t *testing.T, want string, list ...api.Item) {
	t.Helper()
	if s, e := parse.Text(list); s != want || e != api.OK {
		t.Errorf("Text(%s): %q, %d, want %q", short(tellItems(list)), short(s), e, short(want))
	}
}

func writesSource(t *testing.T, want string, list ...api.Form) {
	t.Helper()
	if s, e := parse.Source(list); s != want || e != api.OK {
		t.Errorf("Source(%s): %q, %d, want %q", short(tellForms(list)), short(s), e, short(want))
	}
}

func refusesText(t *testing.T, want api.Errno, list ...api.Item) {
	t.Helper()
	if s, e := parse.Text(list); s != "" || e != want {
		t.Errorf("Text of %d items: %q, %d, want the error %d alone", len(list), short(s), e, want)
	}
}

func refusesSource(t *testing.T, want api.Errno, list ...api.Form) {
	t.Helper()
	if s, e := parse.Source(list); s != "" || e != want {
		t.Errorf("Source of %d forms: %q, %d, want the error %d alone", len(list), short(s), e, want)
	}
}

// fits holds that an item has a text, wherever it stands, which is that item again.
func fits(t *testing.T, item api.Item) {
	t.Helper()
	s, e := parse.Text(items(item))
	if e != api.OK {
		t.Errorf("Text(%s): %d", short(tellItem(item)), e)
	}
	reads(t, s, item)
	writesSource(t, s+"\n", form(item))
}

// unfit holds that an item is refused, wherever it stands.
func unfit(t *testing.T, item api.Item) {
	t.Helper()
	refusesText(t, api.ErrForm, item)
	refusesText(t, api.ErrForm, call("a"), item)
	refusesText(t, api.ErrForm, item, call("a"))
	refusesSource(t, api.ErrForm, form(item))
	refusesSource(t, api.ErrForm, form(call("a")), form(item))
	refusesSource(t, api.ErrForm, def("a", effect(0, 0), item))
	refusesSource(t, api.ErrForm, def("a", effect(0, 0), call("a"), item), form(call("a")))
	refusesText(t, api.ErrForm, push(quot(item)))
}

func unfitValue(t *testing.T, v api.Value) {
	t.Helper()
	unfit(t, push(v))
	unfit(t, push(list(num(1), v)))
	unfit(t, push(quot(call("a"), push(list(v)))))
}

// P7.2: what the texts are

func TestTextExamples(t *testing.T) {
	writes(t, `1 [ dup { 2 t } ] "x"`, push(num(1)), push(quot(call("dup"), push(list(num(2), flag(true))))), push(str("x")))
	writesSource(t, ": sq ( x -- x ) dup * ;\n3\nsq\n", def("sq", effect(1, 1), call("dup"), call("*")), form(push(num(3))), form(call("sq")))
}

func TestTexts(t *testing.T) {
	writes(t, "")
	writes(t, "0 -1 7", push(num(0)), push(num(-1)), push(num(7)))
	writes(t, "1152921504606846975 -1152921504606846976", push(num(api.MaxInt)), push(num(api.MinInt)))
	writes(t, `"" "a b" "\n\"\\" "語	"`, push(str("")), push(str("a b")), push(str("\n\"\\")), push(str("語\t")))
	writes(t, "t f", push(flag(true)), push(flag(false)))
	writes(t, "[ ] { }", push(quot()), push(list()))
	writes(t, "[ [ ] ] { { } } [ { } ] { [ ] }", push(quot(push(quot()))), push(list(list())), push(quot(push(list()))), push(list(quot())))
	writes(t, `{ 1 [ a ] "s" { f } }`, push(list(num(1), quot(call("a")), str("s"), list(flag(false)))))
	writes(t, `[ a 1 [ b c ] "s" { f } ]`, push(quot(call("a"), push(num(1)), push(quot(call("b"), call("c"))), push(str("s")), push(list(flag(false))))))
	writes(t, `a"b !a 語`, call(`a"b`), call("!a"), call("語"))
}

func TestSources(t *testing.T) {
	writesSource(t, "")
	writesSource(t, "1\n{ }\n\"\\n\"\n", form(push(num(1))), form(push(list())), form(push(str("\n"))))
	writesSource(t, ": a ( -- ) ;\n", def("a", effect(0, 0)))
	writesSource(t, ": a ( x -- ) ;\n", def("a", effect(1, 0)))
	writesSource(t, ": a ( -- x ) ;\n", def("a", effect(0, 1)))
	writesSource(t, ": 語 ( x x x -- x x ) 語 [ ] { 1 } ;\na\n: b ( -- ) t ;\n", def("語", effect(3, 2), call("語"), push(quot()), push(list(num(1)))), form(call("a")), def("b", effect(0, 0), push(flag(true))))
	all := strings.Repeat("x ", api.MaxArgs)
	writesSource(t, ": a ( "+all+"-- "+all+") ;\n", def("a", effect(api.MaxArgs, api.MaxArgs)))
}

// P7.2: what is not sound

func TestNumbers(t *testing.T) {
	for _, n := range []int64{api.MaxInt, api.MinInt, 0, -1} {
		fits(t, push(num(n)))
	}
	for _, n := range []int64{api.MaxInt + 1, api.MinInt - 1, math.MaxInt64, math.MinInt64} {
		unfitValue(t, num(n))
	}
}

func TestStrings(t *testing.T) {
	for _, s := range []string{"", "\x00", "\ufffd", "! a\n", strings.Repeat("a", api.MaxStr), strings.Repeat("\n", api.MaxStr), strings.Repeat("語", api.MaxStr/3) + "a"} {
		fits(t, push(str(s)))
	}
	for _, s := range []string{"\xff", "a\xc3", "\xed\xa0\x80", strings.Repeat("a", api.MaxStr+1), strings.Repeat("語", api.MaxStr/3) + "é", strings.Repeat("a", 1<<20)} {
		unfitValue(t, str(s))
	}
}

func TestNames(t *testing.T) {
	for _, s := range []string{"a", "dup", "::", "---", "-", "!a", `a"`, "tt", "T", "1٣", strings.Repeat("語", api.MaxName)} {
		fits(t, call(s))
		fits(t, push(quot(call(s))))
		writesSource(t, ": "+s+" ( -- ) ;\n", def(s, effect(0, 0)))
	}
	for _, s := range []string{"", ":", ";", "(", ")", "--", "[", "]", "{", "}", "t", "f", "1", "-1", "−٣", "99999999999999999999", "!", `"`, `"a"`, "a b", " a", "a\n", "a\u3000", "\x01", "\x7f", "\ufffd", "a\xff", strings.Repeat("a", api.MaxName+1)} {
		unfit(t, call(s))
		refusesSource(t, api.ErrForm, def(s, effect(0, 0)))
		refusesSource(t, api.ErrForm, def(s, effect(0, 0), call("a")), form(call("a")))
	}
}

func TestBoxes(t *testing.T) {
	for _, n := range []int{1, 7, api.MaxBoxes, 0, -1, api.MaxBoxes + 1} {
		unfitValue(t, api.Box{N: n})
	}
}

type falseValue struct{ api.Value }
type falseItem struct{ api.Item }
type falseInt struct{ api.Int }

func TestWhatIsNoValue(t *testing.T) {
	unfit(t, nil)
	for _, v := range []api.Value{nil, &api.Int{}, &api.Str{}, &api.Bool{}, &api.List{}, &api.Quot{}, &api.Box{N: 1}, (*api.Int)(nil), (*api.List)(nil), (*api.Quot)(nil), falseValue{}, falseValue{num(1)}, falseInt{}, &falseInt{}} {
		unfitValue(t, v)
	}
	for _, item := range []api.Item{&api.Push{V: num(1)}, &api.Call{Name: "a"}, (*api.Push)(nil), (*api.Call)(nil), falseItem{}, falseItem{call("a")}, &falseItem{}} {
		unfit(t, item)
	}
}

// nested answers a value of so many lists and quotations within one another, with some value in the midst.
func nested(deep int, inner api.Value) api.Value {
	for i := range deep {
		if inner == nil {
			inner = list()
		} else if i%2 == 0 {
			inner = list(inner)
		} else {
			inner = quot(push(inner))
		}
	}
	return inner
}

func TestDepths(t *testing.T) {
	fits(t, push(nested(api.MaxNest, nil)))
	fits(t, push(nested(api.MaxNest, num(1))))
	fits(t, push(nested(api.MaxNest-1, quot(call("a")))))
	for _, v := range []api.Value{nested(api.MaxNest+1, nil), nested(api.MaxNest+1, num(1)), nested(api.MaxNest, quot()), nested(api.MaxNest, list(num(1))), nested(5000, nil)} {
		unfit(t, push(v))
		unfit(t, push(list(num(1), v)))
	}
}

func TestSizesOfItems(t *testing.T) {
	ones := slices.Repeat([]api.Value{num(1)}, most)
	fits(t, push(list(ones...)))
	unfit(t, push(list(append(ones, num(1))...)))
	unfit(t, push(list(append(ones, list())...)))
	fits(t, push(quot(times(most, call("a"))...)))
	unfit(t, push(quot(times(most+1, call("a"))...)))
	fits(t, push(quot(times(most, push(num(1)))...)))
	unfit(t, push(quot(times(most+1, push(str("")))...)))
	fits(t, push(quot(times(most, push(quot()))...)))
	fits(t, push(list(quot(times(most-1, call("a"))...))))
	unfit(t, push(list(quot(times(most, call("a"))...))))
	unfit(t, push(list(quot(times(most-1, call("a"))...), num(1))))
	unfit(t, push(list(make([]api.Value, 1<<20)...)))
}

// Each item has a size of its own, be they many together.
func TestManyItems(t *testing.T) {
	full := push(quot(times(most, call("a"))...))
	one := "[ " + strings.Repeat("a ", most) + "]"
	writes(t, one+" "+one+" "+one, full, full, full)
	writes(t, strings.TrimSpace(strings.Repeat("a ", api.MaxItems+1)), times(api.MaxItems+1, call("a"))...)
	writesSource(t, ": a ( -- ) "+one+" "+one+" ;\n", def("a", effect(0, 0), full, full))
}

// Lists that hold themselves, or one another over and over.
func TestValuesWithoutAnEnd(t *testing.T) {
	round := make([]api.Value, 1)
	round[0] = list(round...)
	unfit(t, push(round[0]))
	code := make([]api.Item, 2)
	code[0], code[1] = push(quot(code...)), push(quot(code...))
	unfit(t, code[0])
	refusesSource(t, api.ErrForm, def("a", effect(0, 0), code...))
	wide := list()
	for range api.MaxNest - 1 {
		wide = list(wide, wide)
	}
	unfit(t, push(wide))
}

func TestEffectsOfDefinitions(t *testing.T) {
	for _, n := range []int{-1, api.MaxArgs + 1, math.MaxInt, math.MinInt} {
		refusesSource(t, api.ErrForm, def("a", effect(n, 0)))
		refusesSource(t, api.ErrForm, def("a", effect(0, n)))
		refusesSource(t, api.ErrForm, form(call("a")), def("a", effect(n, n)))
	}
}

func TestFieldsBeside(t *testing.T) {
	a := api.Form{Define: true, Def: api.Def{Name: "a"}}
	writesSource(t, ": a ( -- ) ;\n", a)
	for _, item := range []api.Item{call("a"), push(num(1)), &api.Push{}, (*api.Push)(nil), falseItem{}} {
		a.Item = item
		refusesSource(t, api.ErrForm, a)
	}
	for _, d := range []api.Def{{Name: "a"}, {Name: "["}, {Effect: effect(1, 0)}, {Effect: effect(0, 1)}, {Effect: effect(0, -1)}, {Body: items(call("a"))}, {Body: items(nil)}} {
		refusesSource(t, api.ErrForm, api.Form{Item: call("a"), Def: d})
	}
	writesSource(t, "a\n", api.Form{Item: call("a"), Def: api.Def{Body: []api.Item{}}})
	refusesSource(t, api.ErrForm, api.Form{})
	refusesSource(t, api.ErrForm, api.Form{Define: true})
}

// P7.2: what is too large

// filled answers items whose text has so many bytes.
func filled(size int) []api.Item {
	var list []api.Item
	for ; size > api.MaxStr+9; size -= api.MaxStr + 3 {
		list = append(list, push(str(strings.Repeat("a", api.MaxStr))))
	}
	for ; size > api.MaxName; size -= 2 {
		list = append(list, call("a"))
	}
	return append(list, call(strings.Repeat("b", size)))
}

func TestTextsAreTooLarge(t *testing.T) {
	for _, size := range []int{1, 100, api.MaxText - 1, api.MaxText} {
		if s, e := parse.Text(filled(size)); len(s) != size || e != api.OK {
			t.Errorf("Text of %d bytes: %d, %d", size, len(s), e)
		}
	}
	refusesText(t, api.ErrLarge, filled(api.MaxText+1)...)
	refusesText(t, api.ErrLarge, filled(api.MaxText+2)...)
	refusesText(t, api.ErrLarge, filled(5*api.MaxText)...)
	refusesText(t, api.ErrLarge, append(filled(api.MaxText), push(quot()))...)
}

func TestSourcesAreTooLarge(t *testing.T) {
	around := len(": a ( -- ) ") + len(" ;\n")
	if s, e := parse.Source(forms(def("a", effect(0, 0), filled(api.MaxText-around)...))); len(s) != api.MaxText || e != api.OK {
		t.Errorf("a large source: %d, %d", len(s), e)
	}
	refusesSource(t, api.ErrLarge, def("a", effect(0, 0), filled(api.MaxText-around+1)...))
	lines := slices.Repeat(forms(form(call("a"))), api.MaxText/2)
	writesSource(t, strings.Repeat("a\n", api.MaxText/2), lines...)
	refusesSource(t, api.ErrLarge, append(lines, form(call("a")))...)
	lines[0] = form(call("aa"))
	refusesSource(t, api.ErrLarge, lines...)
}

// Far more than there is memory for.
func TestTextsOfHugeSize(t *testing.T) {
	long := str(strings.Repeat("\n", api.MaxStr))
	full := push(list(slices.Repeat([]api.Value{long}, most)...))
	refusesText(t, api.ErrLarge, times(1000, full)...)
	refusesSource(t, api.ErrLarge, def("a", effect(0, 0), times(1000, full)...))
	refusesSource(t, api.ErrLarge, slices.Repeat(forms(form(full)), 1000)...)
}

func TestWhatIsNotSoundComesFirst(t *testing.T) {
	large := filled(2 * api.MaxText)
	refusesText(t, api.ErrForm, append(large, call(""))...)
	refusesSource(t, api.ErrForm, def("a", effect(0, 0), large...), form(nil))
	refusesSource(t, api.ErrForm, def("a", effect(0, 0), large...), def("a", effect(-1, 0)))
}

// What follows

type maker struct{ *rand.Rand }

func (m maker) value(deep int) api.Value {
	switch n := m.Intn(7); {
	case n < 2:
		return num(m.Int63()>>m.Intn(64)&api.MaxInt - m.Int63()>>m.Intn(64)&api.MaxInt)
	case n == 2:
		return flag(m.Intn(2) == 0)
	case n < 5 || deep == 0:
		parts := []string{"a", " ", "\n", `"`, `\`, "語", "]", "!", "\x00", "\ufffd"}
		var b strings.Builder
		for range m.Intn(8) {
			b.WriteString(parts[m.Intn(len(parts))])
		}
		return str(b.String())
	case n == 5:
		var l []api.Value
		for range m.Intn(5) {
			l = append(l, m.value(deep-1))
		}
		return api.List{Items: l}
	}
	return api.Quot{Items: m.items(5, deep-1)}
}

func (m maker) items(bound, deep int) []api.Item {
	var l []api.Item
	for range m.Intn(bound) {
		if m.Intn(2) == 0 {
			l = append(l, call([]string{"dup", "+", "語", "!!", "1a", `x"`, "--1"}[m.Intn(7)]))
		} else {
			l = append(l, push(m.value(deep)))
		}
	}
	return l
}

// tokensOf writes down the tokens of a value and of items one by one.
func tokensOf(v api.Value) []string {
	switch x := v.(type) {
	case api.Int:
		return []string{strconv.FormatInt(x.N, 10)}
	case api.Str:
		q, _ := lex.Quoted(x.S)
		return []string{q}
	case api.Bool:
		return []string{map[bool]string{false: "f", true: "t"}[x.B]}
	case api.List:
		all := []string{"{"}
		for _, v := range x.Items {
			all = append(all, tokensOf(v)...)
		}
		return append(all, "}")
	}
	return append(append([]string{"["}, tokensOfItems(v.(api.Quot).Items)...), "]")
}

func tokensOfItems(list []api.Item) []string {
	var all []string
	for _, item := range list {
		if p, ok := item.(api.Push); ok {
			all = append(all, tokensOf(p.V)...)
		} else {
			all = append(all, item.(api.Call).Name)
		}
	}
	return all
}

func TestTextAndBack(t *testing.T) {
	m := maker{rand.New(rand.NewSource(9))}
	for range 5000 {
		list := m.items(9, 5)
		s := strings.Join(tokensOfItems(list), " ")
		writes(t, s, list...)
		reads(t, s, list...)
	}
}

func TestSourceAndBack(t *testing.T) {
	m := maker{rand.New(rand.NewSource(10))}
	for range 3000 {
		var list []api.Form
		var b strings.Builder
		for _, item := range m.items(5, 4) {
			in, out, body := m.Intn(api.MaxArgs+1), m.Intn(api.MaxArgs+1), m.items(6, 4)
			list = append(list, form(item), def("sq", effect(in, out), body...))
			b.WriteString(strings.Join(tokensOfItems(items(item)), " ") + "\n: sq ( " + strings.Repeat("x ", in) + "-- " + strings.Repeat("x ", out) + ") ")
			b.WriteString(strings.Join(append(tokensOfItems(body), ";"), " ") + "\n")
		}
		writesSource(t, b.String(), list...)
		parses(t, b.String(), list...)
	}
}
