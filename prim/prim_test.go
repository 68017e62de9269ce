package prim_test

import (
	"fmt"
	"slices"
	"strings"
	"testing"

	"quire/api"
	"quire/effect"
	"quire/parse"
	"quire/prim"
)

func call(name string) api.Item            { return api.Call{Name: name} }
func push(v api.Value) api.Item            { return api.Push{V: v} }
func num(n int64) api.Value                { return api.Int{N: n} }
func str(s string) api.Value               { return api.Str{S: s} }
func flag(b bool) api.Value                { return api.Bool{B: b} }
func box(n int) api.Value                  { return api.Box{N: n} }
func list(items ...api.Value) api.Value    { return api.List{Items: items} }
func quot(items ...api.Item) api.Value     { return api.Quot{Items: items} }
func values(list ...api.Value) []api.Value { return list }
func alike(n int, v api.Value) []api.Value { return slices.Repeat(values(v), n) }

// stack answers the values that a source pushes; a word box stands for the box number 7.
func stack(t *testing.T, source string) (all []api.Value) {
	t.Helper()
	items, at, e := parse.Items(source)
	if e != api.OK {
		t.Fatalf("%q: %d at %d", source, e, at)
	}
	for _, item := range items {
		switch x := item.(type) {
		case api.Push:
			all = append(all, x.V)
		case api.Call:
			if x.Name != "box" {
				t.Fatalf("%q: %q", source, x.Name)
			}
			all = append(all, box(7))
		}
	}
	return all
}

// tell writes down all that a value holds. Lists without anything in them are told as one, be they nil or not.
func tell(v api.Value) string {
	switch x := v.(type) {
	case api.List:
		return "List(" + tellAll(x.Items) + ")"
	case api.Quot:
		var parts []string
		for _, item := range x.Items {
			parts = append(parts, tellItem(item))
		}
		return "Quot(" + strings.Join(parts, " ") + ")"
	}
	return fmt.Sprintf("%#v", v)
}

func tellItem(item api.Item) string {
	if p, ok := item.(api.Push); ok {
		return "Push(" + tell(p.V) + ")"
	}
	return fmt.Sprintf("%#v", item)
}

func tellAll(list []api.Value) string {
	var parts []string
	for _, v := range list {
		parts = append(parts, tell(v))
	}
	return strings.Join(parts, " ")
}

// short cuts a long text for a message.
func short(s string) string {
	if len(s) > 120 {
		return s[:120] + " .."
	}
	return s
}

// gives holds what a primitive makes of values, and that those further down are left as they are.
func gives(t *testing.T, name string, args, want []api.Value) {
	t.Helper()
	for _, below := range [][]api.Value{nil, {num(9)}, {str("a"), list(num(1), quot(call("x"))), box(3), flag(false)}} {
		got, e := prim.Do(name, slices.Concat(below, args))
		if e != api.OK || tellAll(got) != tellAll(slices.Concat(below, want)) {
			t.Errorf("Do(%q, %s), %d further down: %s, %d, want %s", name, short(tellAll(args)), len(below), short(tellAll(got)), e, short(tellAll(want)))
		}
	}
}

// does holds the same of values that are written as sources.
func does(t *testing.T, name, args, want string) {
	t.Helper()
	gives(t, name, stack(t, args), stack(t, want))
}

// fails holds that a primitive refuses values, and answers nothing beside the error.
func fails(t *testing.T, name string, args []api.Value, want api.Errno) {
	t.Helper()
	got, e := prim.Do(name, args)
	if e != want || len(got) != 0 {
		t.Errorf("Do(%q, %s): %s, %d, want %d", name, short(tellAll(args)), short(tellAll(got)), e, want)
	}
}

// refuses holds it whatever is further down.
func refuses(t *testing.T, name string, args []api.Value, want api.Errno) {
	t.Helper()
	for _, below := range [][]api.Value{nil, {num(9)}, {list(), str("a"), flag(true), quot()}} {
		fails(t, name, slices.Concat(below, args), want)
	}
}

func TestExamples(t *testing.T) {
	does(t, "+", "2 3", "5")
	does(t, "swap", "1 2 3", "1 3 2")
	does(t, "nth", `0 "é"`, `"é"`)
	does(t, "length", `"é"`, "1")
	refuses(t, "append", stack(t, `"a" { }`), api.ErrKind)
	refuses(t, ">int", stack(t, `"x"`), api.ErrText)
	fails(t, "dup", nil, api.ErrUnder)
}

// P12.1

// row is a primitive, with its effect as the chapter writes it; none, if that hangs on what it is handed.
type row struct{ name, effect string }

// table answers the chapter's table, and no more.
func table() []row {
	return []row{
		{"dup", "x -- x x"}, {"drop", "x --"}, {"swap", "x y -- y x"}, {"over", "x y -- x y x"}, {"rot", "x y z -- y z x"}, {"nip", "x y -- y"}, {"tuck", "x y -- y x y"},
		{"+", "n m -- n"}, {"-", "n m -- n"}, {"*", "n m -- n"}, {"/", "n m -- n"}, {"mod", "n m -- n"},
		{"neg", "n -- n"}, {"abs", "n -- n"}, {"min", "n m -- n"}, {"max", "n m -- n"},
		{"<", "n m -- b"}, {">", "n m -- b"},
		{"=", "x y -- b"},
		{"and", "b c -- b"}, {"or", "b c -- b"}, {"not", "b -- b"},
		{"int?", "x -- b"}, {"str?", "x -- b"}, {"bool?", "x -- b"}, {"list?", "x -- b"}, {"quot?", "x -- b"}, {"box?", "x -- b"},
		{"length", "a -- n"},
		{"append", "a a -- a"},
		{"nth", "n s -- x"},
		{"slice", "n m s -- s"},
		{"wrap", "x -- l"}, {"pair", "x y -- l"}, {"unpair", "l -- x y"},
		{"reverse", "s -- s"},
		{"curry", "x q -- q"}, {"compose", "q r -- q"},
		{">str", "x -- s"},
		{">int", "s -- n"},
	}
}

func others() []row {
	return []row{{"call", ""}, {"dip", ""}, {"keep", ""}, {"if", ""}, {"when", ""}, {"times", ""}, {"each", ""}, {"loop", ""}, {"box", "x -- x"}, {"get", "x -- x"}, {"put", "x y --"}, {".", "x --"}}
}

// takes answers what stands on one side of an effect.
func (r row) takes() []string {
	left, _, _ := strings.Cut(r.effect, "--")
	return strings.Fields(left)
}

func (r row) leaves() []string {
	_, right, _ := strings.Cut(r.effect, "--")
	return strings.Fields(right)
}

// noPrimitives answers names that are none, most of them near to one.
func noPrimitives() []string {
	return []string{"", " ", "sq", "foo", "Dup", "DUP", "dup ", " dup", "dup\x00", "du", "dupe", "dup drop", "drop swap", "%", "--", "-1", "1", "t", "f", ":", ";", "[", "]", "..", "int", "?", "box? ", "<=", "==", ">string", "negate", "*+", "\xff", "+\xff", "＋", "语", strings.Repeat("a", 1<<20), strings.Repeat("dup ", 1<<16)}
}

func TestNames(t *testing.T) {
	var want []string
	for _, r := range slices.Concat(table(), others()) {
		want = append(want, r.name)
	}
	if got := prim.Names(); !slices.Equal(got, want) || len(got) != 52 {
		t.Errorf("Names: %q, want %q", got, want)
	}
}

func TestIs(t *testing.T) {
	for _, r := range slices.Concat(table(), others()) {
		if !prim.Is(r.name) {
			t.Errorf("Is(%q): false", r.name)
		}
	}
	for _, name := range noPrimitives() {
		if prim.Is(name) {
			t.Errorf("Is(%q): true", short(name))
		}
	}
}

func TestEffects(t *testing.T) {
	for _, r := range slices.Concat(table(), others()) {
		want, has := api.Effect{In: len(r.takes()), Out: len(r.leaves())}, r.effect != ""
		if x, ok := prim.Effect(r.name); x != want || ok != has {
			t.Errorf("Effect(%q): %v, %t, want %v, %t", r.name, x, ok, want, has)
		}
		if x, ok := effect.Prim(r.name); x != want || ok != has {
			t.Errorf("effect.Prim(%q): %v, %t, want %v, %t", r.name, x, ok, want, has)
		}
	}
	for _, name := range noPrimitives() {
		if x, ok := prim.Effect(name); x != (api.Effect{}) || ok {
			t.Errorf("Effect(%q): %v, %t", short(name), x, ok)
		}
	}
}

// R4, R5: a list of names that is written over is nobody else's
func TestNamesAreNew(t *testing.T) {
	want := prim.Names()
	got := prim.Names()
	all := got[:cap(got)]
	for i := range all {
		all[i] = "foo"
	}
	if again := prim.Names(); !slices.Equal(again, want) || want[0] != "dup" || want[51] != "." {
		t.Errorf("Names: %q", again)
	}
	if !prim.Is("dup") || !prim.Is(".") || prim.Is("foo") {
		t.Errorf("Is hangs on a list that was answered")
	}
}
