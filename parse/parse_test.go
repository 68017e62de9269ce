package parse_test

import (
	"fmt"
	"slices"
	"strings"
	"testing"

	"quire/api"
	"quire/lex"
	"quire/parse"
)

func call(name string) api.Item             { return api.Call{Name: name} }
func push(v api.Value) api.Item             { return api.Push{V: v} }
func num(n int64) api.Value                 { return api.Int{N: n} }
func str(s string) api.Value                { return api.Str{S: s} }
func flag(b bool) api.Value                 { return api.Bool{B: b} }
func list(items ...api.Value) api.Value     { return api.List{Items: items} }
func quot(items ...api.Item) api.Value      { return api.Quot{Items: items} }
func form(item api.Item) api.Form           { return api.Form{Item: item} }
func effect(in, out int) api.Effect         { return api.Effect{In: in, Out: out} }
func items(list ...api.Item) []api.Item     { return list }
func forms(list ...api.Form) []api.Form     { return list }
func times(n int, item api.Item) []api.Item { return slices.Repeat(items(item), n) }

func def(name string, e api.Effect, body ...api.Item) api.Form {
	return api.Form{Define: true, Def: api.Def{Name: name, Effect: e, Body: body}}
}

// tellValue and tell write down all that an answer holds. Lists without anything in them are told as one, be they nil or not.
func tellValue(v api.Value) string {
	switch x := v.(type) {
	case api.List:
		var parts []string
		for _, v := range x.Items {
			parts = append(parts, tellValue(v))
		}
		return "List(" + strings.Join(parts, " ") + ")"
	case api.Quot:
		return "Quot(" + tellItems(x.Items) + ")"
	case api.Str:
		return fmt.Sprintf("%q", x.S)
	}
	return fmt.Sprintf("%T%v", v, v)
}

func tellItem(item api.Item) string {
	if p, ok := item.(api.Push); ok {
		return tellValue(p.V)
	}
	return fmt.Sprintf("%T%v", item, item)
}

func tellItems(items []api.Item) string {
	var parts []string
	for _, item := range items {
		parts = append(parts, tellItem(item))
	}
	return strings.Join(parts, " ")
}

func tellForm(f api.Form) string {
	return fmt.Sprintf("%t %q %v (%s) %s", f.Define, f.Def.Name, f.Def.Effect, tellItems(f.Def.Body), tellItem(f.Item))
}

func tellForms(forms []api.Form) string {
	var parts []string
	for _, f := range forms {
		parts = append(parts, tellForm(f))
	}
	return strings.Join(parts, "\n")
}

// short cuts a long text for a message.
func short(s string) string {
	if len(s) > 80 {
		return s[:80] + " .."
	}
	return s
}

func parses(t *testing.T, s string, want ...api.Form) {
	t.Helper()
	got, at, e := parse.Parse(s)
	if tellForms(got) != tellForms(want) || len(got) != len(want) || at != 0 || e != api.OK {
		t.Errorf("Parse(%q): %s, %d, %d, want %s", short(s), short(tellForms(got)), at, e, short(tellForms(want)))
	}
}

// reads holds Items to the items, and Parse to a form for each of them.
func reads(t *testing.T, s string, want ...api.Item) {
	t.Helper()
	got, at, e := parse.Items(s)
	if tellItems(got) != tellItems(want) || len(got) != len(want) || at != 0 || e != api.OK {
		t.Errorf("Items(%q): %s, %d, %d, want %s", short(s), short(tellItems(got)), at, e, short(tellItems(want)))
	}
	var all []api.Form
	for _, item := range want {
		all = append(all, form(item))
	}
	parses(t, s, all...)
}

func refusesParse(t *testing.T, s string, place int, want api.Errno) {
	t.Helper()
	if got, at, e := parse.Parse(s); len(got) != 0 || at != place || e != want {
		t.Errorf("Parse(%q): %s, %d, %d, want the error %d at %d alone", short(s), short(tellForms(got)), at, e, want, place)
	}
}

func refusesItems(t *testing.T, s string, place int, want api.Errno) {
	t.Helper()
	if got, at, e := parse.Items(s); len(got) != 0 || at != place || e != want {
		t.Errorf("Items(%q): %s, %d, %d, want the error %d at %d alone", short(s), short(tellItems(got)), at, e, want, place)
	}
}

func refuses(t *testing.T, s string, place int, want api.Errno) {
	t.Helper()
	refusesParse(t, s, place, want)
	refusesItems(t, s, place, want)
}

// P7.1: what the forms are

func TestExamples(t *testing.T) {
	reads(t, `1 [ dup { 2 t } ] "x"`, push(num(1)), push(quot(call("dup"), push(list(num(2), flag(true))))), push(str("x")))
	parses(t, ": sq ( n -- m ) dup * ; 3 sq", def("sq", effect(1, 1), call("dup"), call("*")), form(push(num(3))), form(call("sq")))
	refusesParse(t, "[ 1", 3, api.ErrText)
	refusesParse(t, "]", 0, api.ErrText)
	refusesParse(t, ": 3", 2, api.ErrText)
	refusesParse(t, "{ dup }", 2, api.ErrText)
	refusesParse(t, ": a ( b ) ;", 8, api.ErrText)
	reads(t, "t", push(flag(true)))
	refusesParse(t, "(", 0, api.ErrText)
}

func TestNothing(t *testing.T) {
	for _, s := range []string{"", " ", "\n\t\u3000", "! a ] }", "!\n"} {
		reads(t, s)
	}
}

func TestItems(t *testing.T) {
	reads(t, "f", push(flag(false)))
	reads(t, "-7 −٣ ００", push(num(-7)), push(num(-3)), push(num(0)))
	reads(t, "1152921504606846975 -1152921504606846976", push(num(api.MaxInt)), push(num(api.MinInt)))
	reads(t, `"" "a\n\"\\"`, push(str("")), push(str("a\n\"\\")))
	reads(t, "dup + . >str 語 !a a\"b", call("dup"), call("+"), call("."), call(">str"), call("語"), call("!a"), call(`a"b`))
	reads(t, "a! b ! c\nd", call("a!"), call("b"), call("d"))
}

// Words that only begin like reserved ones, or stand in strings, are none.
func TestNoReservedWords(t *testing.T) {
	for _, s := range []string{"::", ";;", "((", "()", "))", "---", "-", "[]", "[[", "{}", "T", "F", "tt", "tf", "true", ":a", "[a", "a]", "t.", "−−", "（"} {
		reads(t, s, call(s))
		reads(t, "[ "+s+" ]", push(quot(call(s))))
	}
	for _, s := range []string{":", ";", "(", ")", "--", "[", "]", "{", "}", "t", "f"} {
		reads(t, `"`+s+`"`, push(str(s)))
		reads(t, `{ "`+s+`" }`, push(list(str(s))))
		refusesParse(t, `: "`+s+`" ( -- ) ;`, 2, api.ErrText)
		refusesParse(t, `: a ( "`+s+`" -- ) ;`, 6, api.ErrText)
	}
}

func TestBrackets(t *testing.T) {
	reads(t, "[ ] { }", push(quot()), push(list()))
	reads(t, "[ [ ] { } a ]", push(quot(push(quot()), push(list()), call("a"))))
	reads(t, `{ [ a ] { 1 } "s" t f -1 }`, push(list(quot(call("a")), list(num(1)), str("s"), flag(true), flag(false), num(-1))))
	reads(t, "{ [ { [ a ] } ] } b", push(list(quot(push(list(quot(call("a"))))))), call("b"))
	reads(t, "[ t f 1 ]", push(quot(push(flag(true)), push(flag(false)), push(num(1)))))
}

// What stands behind a string's end begins a word of its own.
func TestBracketsBehindStrings(t *testing.T) {
	reads(t, `[ "a"]`, push(quot(push(str("a")))))
	reads(t, `{ "a""b"}`, push(list(str("a"), str("b"))))
	refuses(t, `{ "a"]`, 5, api.ErrText)
	refuses(t, `["a" ]`, 5, api.ErrText) // ["a" is a name
}

func TestDefinitions(t *testing.T) {
	parses(t, ": a ( -- ) ;", def("a", effect(0, 0)))
	parses(t, ": a ( b -- ) ;", def("a", effect(1, 0)))
	parses(t, ": a ( -- b ) ;", def("a", effect(0, 1)))
	parses(t, ": a ( a a b -- a a ) a ;", def("a", effect(3, 2), call("a")))
	parses(t, ": ! remark\na ! ( \n( b ! --\n-- ) ! ;\n;", def("a", effect(1, 0)))
	parses(t, `: a ( -- ) 1 t "s" [ b { f } ] { } ;`, def("a", effect(0, 0), push(num(1)), push(flag(true)), push(str("s")), push(quot(call("b"), push(list(flag(false))))), push(list())))
	parses(t, "1 : a ( -- ) ; b : a ( -- ) c ; [ ]", form(push(num(1))), def("a", effect(0, 0)), form(call("b")), def("a", effect(0, 0), call("c")), form(push(quot())))
	parses(t, ": dup ( -- ) ;", def("dup", effect(0, 0)))
}

// P7.1: where the grammar can't go on

func TestErrorsOfTokens(t *testing.T) {
	large := strings.Repeat(" ", api.MaxText+1)
	for _, s := range []string{"\"a", `"a\x"`, "a \x01", "1 1152921504606846976", "a \xff", large, strings.Repeat("a ", api.MaxItems+1)} {
		_, place, want := lex.Tokens(s)
		refuses(t, s, place, want)
	}
	refuses(t, "] \"a", 2, api.ErrText) // the string's fault counts, not that of ]
	refuses(t, "] \x01", 2, api.ErrName)
	refuses(t, "[ \xff", 2, api.ErrUtf8)
	refuses(t, "( "+strings.Repeat("a ", api.MaxItems), 2*api.MaxItems, api.ErrLarge)
	refuses(t, strings.Repeat("[ ", api.MaxNest+1)+"99999999999999999999", 2*api.MaxNest+2, api.ErrLarge)
}

func TestWordsThatCanNotStandThere(t *testing.T) {
	for _, s := range []string{";", "(", ")", "--", "]", "}"} {
		refuses(t, s, 0, api.ErrText)
		refuses(t, "a "+s, 2, api.ErrText)
		refuses(t, `"語" `+s+" ]", 6, api.ErrText)
		if s != "]" {
			refuses(t, "[ a "+s, 4, api.ErrText)
		}
		if s != "}" {
			refuses(t, "{ 1 "+s, 4, api.ErrText)
		}
		if s != ";" {
			refusesParse(t, ": a ( -- ) "+s, 11, api.ErrText)
		}
	}
}

func TestBracketsThatDoNotEnd(t *testing.T) {
	for _, s := range []string{"[", "[ ", "{", "[ [ ]", "{ { }", "{ [ a ]", "[ { 1 } a\n\n", "[ a ! ]", "{ \"}\""} {
		refuses(t, s, len(s), api.ErrText)
	}
	refuses(t, "[ }", 2, api.ErrText)
	refuses(t, "{ ]", 2, api.ErrText)
	refuses(t, "[ { ] }", 4, api.ErrText)
	refuses(t, "[ ] ]", 4, api.ErrText)
}

func TestNamesAreNoLiterals(t *testing.T) {
	refuses(t, "{ a", 2, api.ErrText)
	refuses(t, "{ 1 { t } dup }", 10, api.ErrText)
	refuses(t, "{ { + } }", 4, api.ErrText)
	refuses(t, "[ { [ ok ] no } ]", 11, api.ErrText)
	refusesParse(t, ": a ( -- ) { b } ;", 13, api.ErrText)
}

func TestDefinitionsStandOutside(t *testing.T) {
	refuses(t, "[ : a ( -- ) ; ]", 2, api.ErrText)
	refuses(t, "{ : a ( -- ) ; }", 2, api.ErrText)
	refusesParse(t, ": a ( -- ) : b ( -- ) ; ;", 11, api.ErrText)
	refusesParse(t, ": a ( -- ) ; ;", 13, api.ErrText)
}

func TestDefinitionsThatDoNotEnd(t *testing.T) {
	whole := ": a ( b -- c ) d ;"
	for size := 1; size < len(whole); size++ {
		if whole[size-1] != ' ' && whole[size] != '-' {
			refusesParse(t, whole[:size], size, api.ErrText)
			refusesParse(t, whole[:size]+" \n", size+2, api.ErrText)
		}
	}
}

func TestHeadsOfDefinitions(t *testing.T) {
	for _, s := range []string{":", ";", "(", ")", "--", "[", "]", "{", "}", "t", "f", "3", `"a"`} {
		refusesParse(t, ": "+s+" ( -- ) ;", 2, api.ErrText)
		if s != "(" {
			refusesParse(t, ": a "+s+" -- ) ;", 4, api.ErrText)
		}
		if s != "--" {
			refusesParse(t, ": a ( "+s+" -- ) ;", 6, api.ErrText)
			refusesParse(t, ": a ( b "+s+" -- ) ;", 8, api.ErrText)
		}
		if s != ")" {
			refusesParse(t, ": a ( -- "+s+" ) ;", 9, api.ErrText)
			refusesParse(t, ": a ( -- b "+s+" ) ;", 11, api.ErrText)
		}
	}
	refusesParse(t, ": a b ( -- ) ;", 4, api.ErrText)
	refusesParse(t, ": ( -- ) ;", 2, api.ErrText)
}

func TestItemsHaveNoDefinitions(t *testing.T) {
	refusesItems(t, ": a ( -- ) ;", 0, api.ErrText)
	refusesItems(t, "1 [ ] :", 6, api.ErrText)
	refusesItems(t, "a ;", 2, api.ErrText)
}
