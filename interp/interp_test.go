package interp_test

import (
	"fmt"
	"slices"
	"strings"
	"testing"

	"quire/api"
	"quire/interp"
	"quire/parse"
)

func call(name string) api.Item                   { return api.Call{Name: name} }
func push(v api.Value) api.Item                   { return api.Push{V: v} }
func num(n int64) api.Value                       { return api.Int{N: n} }
func str(s string) api.Value                      { return api.Str{S: s} }
func flag(b bool) api.Value                       { return api.Bool{B: b} }
func box(n int) api.Value                         { return api.Box{N: n} }
func list(items ...api.Value) api.Value           { return api.List{Items: items} }
func quot(items ...api.Item) api.Value            { return api.Quot{Items: items} }
func values(list ...api.Value) []api.Value        { return list }
func alike(n int, v api.Value) []api.Value        { return slices.Repeat(values(v), n) }
func boxes(list ...api.Content) []api.Content     { return list }
func holds(n int, v api.Value) api.Content        { return api.Content{N: n, V: v} }
func only(next int, stack ...api.Value) api.State { return api.State{Stack: stack, Next: next} }
func defs(list ...api.Def) []api.Def              { return list }

// items reads items of a source.
func items(t *testing.T, source string) []api.Item {
	t.Helper()
	list, at, e := parse.Items(source)
	if e != api.OK {
		t.Fatalf("%q: %d at %d", source, e, at)
	}
	return list
}

// stack answers the values that a source pushes.
func stack(t *testing.T, source string) (all []api.Value) {
	t.Helper()
	for _, item := range items(t, source) {
		all = append(all, item.(api.Push).V)
	}
	return all
}

// word answers a definition of a name by a source.
func word(t *testing.T, name, source string) api.Def {
	t.Helper()
	return api.Def{Name: name, Body: items(t, source)}
}

// tell writes down all that a value holds. Lists without anything in them are told as one, be they nil or not.
func tell(v api.Value) string {
	switch x := v.(type) {
	case api.List:
		return "List(" + tellAll(x.Items) + ")"
	case api.Quot:
		var parts []string
		for _, item := range x.Items {
			parts = append(parts, tellItem(item))
		}
		return "Quot(" + strings.Join(parts, " ") + ")"
	}
	return fmt.Sprintf("%#v", v)
}

func tellItem(item api.Item) string {
	if p, ok := item.(api.Push); ok {
		return "Push(" + tell(p.V) + ")"
	}
	return fmt.Sprintf("%#v", item)
}

func tellAll(list []api.Value) string {
	var parts []string
	for _, v := range list {
		parts = append(parts, tell(v))
	}
	return strings.Join(parts, " ")
}

func tellState(s api.State) string {
	told := []string{tellAll(s.Stack)}
	for _, c := range s.Boxes {
		told = append(told, fmt.Sprint(c.N, ": ", tell(c.V)))
	}
	return strings.Join(append(told, fmt.Sprint("next ", s.Next)), "; ")
}

// short cuts a long text for a message.
func short(s string) string {
	if len(s) > 160 {
		return s[:160] + " .."
	}
	return s
}

const plenty = 20000

// trial is a run: its words, its items, and the state that it begins with.
type trial struct {
	words []api.Def
	items []api.Item
	state api.State
}

// try is a trial of a source on an empty stack.
func try(t *testing.T, source string, words ...api.Def) trial {
	t.Helper()
	return trial{words: words, items: items(t, source), state: only(1)}
}

// on is a trial of a source on values.
func on(t *testing.T, source string, stack ...api.Value) trial {
	t.Helper()
	return trial{items: items(t, source), state: only(1, stack...)}
}

func (r trial) String() string {
	var told []string
	for _, word := range r.words {
		told = append(told, word.Name+": "+tell(quot(word.Body...)))
	}
	return short(strings.Join(append(told, tell(quot(r.items...)), "on "+tellState(r.state)), ", "))
}

// fails holds that a run ends with an error, how much fuel it has used by then, and that it answers nothing beside that.
func (r trial) fails(t *testing.T, fuel, used int, want api.Errno) {
	t.Helper()
	s, out, n, e := interp.Run(r.words, r.items, r.state, fuel)
	if e != want || n != used {
		t.Errorf("%v: error %d, used %d, want %d, %d", r, e, n, want, used)
	}
	if s.Stack != nil || s.Boxes != nil || s.Next != 0 || out != "" {
		t.Errorf("%v: %s and %q beside an error", r, short(tellState(s)), short(out))
	}
}

// leaves holds what a run leaves and tells, and how much fuel it uses: with so much it goes through, with any less it does not.
func (r trial) leaves(t *testing.T, want api.State, told string, used int) {
	t.Helper()
	for _, fuel := range []int{used, used + 1, plenty, api.MaxFuel} {
		s, out, n, e := interp.Run(r.words, r.items, r.state, fuel)
		if e != api.OK || out != told || n != used || tellState(s) != tellState(want) {
			t.Errorf("%v with fuel %d: %s, %q, used %d, error %d, want %s, %q, %d", r, fuel, short(tellState(s)), short(out), n, e, short(tellState(want)), short(told), used)
			return
		}
		if e := interp.Check(s); e != api.OK {
			t.Errorf("%v leaves what is not sound: %s", r, short(tellState(s)))
		}
	}
	for fuel := range min(used, 12) {
		r.fails(t, fuel, fuel, api.ErrFuel)
		r.fails(t, used-1-fuel, used-1-fuel, api.ErrFuel)
	}
}

// gives holds the stack that a run of a source leaves, in which there are no boxes, and the fuel that it uses.
func gives(t *testing.T, source, want string, used int, words ...api.Def) {
	t.Helper()
	try(t, source, words...).leaves(t, only(1, stack(t, want)...), "", used)
}

// tells holds what a run of a source tells, which leaves nothing.
func tells(t *testing.T, source, want string, used int) {
	t.Helper()
	try(t, source).leaves(t, only(1), want, used)
}

// refuses holds the error of a source, and the fuel that was used.
func refuses(t *testing.T, source string, used int, want api.Errno, words ...api.Def) {
	t.Helper()
	try(t, source, words...).fails(t, plenty, used, want)
}

func TestExamples(t *testing.T) {
	tells(t, "2 3 + .", "5 ", 4)
	try(t, `3 [ "a" . ] times`).leaves(t, only(1), `"a" "a" "a" `, 12)
	refuses(t, "f2", 255, api.ErrDeep, word(t, "f2", "1 f2"))
	try(t, "1 box dup 5 swap put get .").leaves(t, only(2), "5 ", 8)
	gives(t, "10 [ 1 - dup 0 > ] loop", "0", 63)
	gives(t, "{ 1 2 3 } 0 swap [ + ] each", "6", 11)
	refuses(t, "+", 1, api.ErrUnder)
	refuses(t, "foo", 1, api.ErrName)
}

// A name with the letter f alone is the flag, so the chapter's word f can't be written in a source, nor be one.
func TestTheFlagIsNoWord(t *testing.T) {
	gives(t, "f t", "f t", 2)
	trial{words: defs(api.Def{Name: "f", Body: items(t, "1 f")}), state: only(1)}.fails(t, plenty, 0, api.ErrForm)
	trial{items: []api.Item{call("f")}, state: only(1)}.fails(t, plenty, 0, api.ErrForm)
}

func TestNothingToDo(t *testing.T) {
	gives(t, "", "", 0)
	for _, s := range soundStates() {
		trial{state: s}.leaves(t, s, "", 0)
		trial{words: defs(word(t, "a", "1 +")), items: []api.Item{}, state: s}.leaves(t, s, "", 0)
	}
}

// P13.2: what goes in comes through

func TestPush(t *testing.T) {
	gives(t, "1", "1", 1)
	gives(t, `1 -2 "three" t f { } [ ] { 1 { "a" [ dup { 2 } foo ] } } [ [ 1 . ] ]`, `1 -2 "three" t f { } [ ] { 1 { "a" [ dup { 2 } foo ] } } [ [ 1 . ] ]`, 9)
	gives(t, "1152921504606846975 -1152921504606846976", "1152921504606846975 -1152921504606846976", 2)
}

// What is on the stack already stays below.
func TestWhatIsBelow(t *testing.T) {
	r := trial{words: defs(word(t, "sq", "dup *")), items: items(t, "3 sq + . [ 4 ] dip"), state: api.State{Stack: values(box(2), flag(true), num(7), num(1)), Boxes: boxes(holds(2, str("x"))), Next: 5}}
	r.leaves(t, api.State{Stack: values(box(2), flag(true), num(4), num(7)), Boxes: boxes(holds(2, str("x"))), Next: 5}, "10 ", 9)
}
