package dict_test

import (
	"fmt"
	"slices"
	"strings"
	"testing"

	"quire/api"
	"quire/dict"
	"quire/parse"
)

func call(name string) api.Item                 { return api.Call{Name: name} }
func push(v api.Value) api.Item                 { return api.Push{V: v} }
func num(n int64) api.Value                     { return api.Int{N: n} }
func str(s string) api.Value                    { return api.Str{S: s} }
func box(n int) api.Value                       { return api.Box{N: n} }
func list(items ...api.Value) api.Value         { return api.List{Items: items} }
func quot(items ...api.Item) api.Value          { return api.Quot{Items: items} }
func items(all ...api.Item) []api.Item          { return all }
func vocabs(all ...api.Vocab) []api.Vocab       { return all }
func words(all ...api.Word) []api.Word          { return all }
func dicts(all ...api.Dict) []api.Dict          { return all }
func has(in, out int) api.Effect                { return api.Effect{In: in, Out: out} }
func uses(name string, all ...string) api.Vocab { return api.Vocab{Name: name, Uses: all} }

// made answers a definition that need not be one of a source.
func made(name string, in, out int, body ...api.Item) api.Def {
	return api.Def{Name: name, Effect: has(in, out), Body: body}
}

// def reads the definition of a source.
func def(t *testing.T, source string) api.Def {
	t.Helper()
	forms, at, e := parse.Parse(source)
	if e != api.OK || len(forms) != 1 || !forms[0].Define {
		t.Fatalf("%q: %d at %d", source, e, at)
	}
	return forms[0].Def
}

// word answers a word of a vocabulary by a source.
func word(t *testing.T, vocab, source string) api.Word {
	t.Helper()
	return api.Word{Vocab: vocab, Def: def(t, source)}
}

// tell writes down all that a value holds. Lists without anything in them are told as one, be they nil or not.
func tell(v api.Value) string {
	switch x := v.(type) {
	case api.List:
		var parts []string
		for _, v := range x.Items {
			parts = append(parts, tell(v))
		}
		return "{ " + strings.Join(parts, " ") + " }"
	case api.Quot:
		return "[ " + tellItems(x.Items) + " ]"
	}
	return fmt.Sprintf("%#v", v)
}

func tellItems(all []api.Item) string {
	var parts []string
	for _, item := range all {
		if p, ok := item.(api.Push); ok {
			parts = append(parts, tell(p.V))
			continue
		}
		parts = append(parts, fmt.Sprintf("%#v", item))
	}
	return strings.Join(parts, " ")
}

func tellDef(d api.Def) string { return fmt.Sprint(d.Name, d.Effect, ": ", tellItems(d.Body)) }

func tellWord(w api.Word) string { return w.Vocab + "'s " + tellDef(w.Def) }

func tellDict(d api.Dict) string {
	var parts []string
	for _, v := range d.Vocabs {
		parts = append(parts, fmt.Sprint(v.Name, " uses", len(v.Uses), v.Uses))
	}
	for _, w := range d.Words {
		parts = append(parts, tellWord(w))
	}
	return strings.Join(parts, "\n")
}

func tellAll(all []api.Dict) string {
	told := fmt.Sprint(len(all))
	for _, d := range all {
		told += "\n---\n" + tellDict(d)
	}
	return told
}

// short cuts a long text for a message.
func short(s string) string {
	if len(s) > 300 {
		return s[:300] + " .."
	}
	return s
}

// same fails the test, unless two dictionaries are the same, and the first is sound.
func same(t *testing.T, got, want api.Dict) {
	t.Helper()
	if tellDict(got) != tellDict(want) {
		t.Errorf("the dictionary is\n%s\nwant\n%s", short(tellDict(got)), short(tellDict(want)))
	}
	if e := dict.Check(got); e != api.OK {
		t.Errorf("Check: %d of\n%s", e, short(tellDict(got)))
	}
}

// gives fails the test, unless a call answered that dictionary.
func gives(t *testing.T, want api.Dict, got api.Dict, e api.Errno) {
	t.Helper()
	if e != api.OK {
		t.Errorf("error %d, want\n%s", e, short(tellDict(want)))
		return
	}
	same(t, got, want)
}

// refuses fails the test, unless a call answered that error, and nothing beside it.
func refuses(t *testing.T, want api.Errno, got api.Dict, e api.Errno) {
	t.Helper()
	if e != want || len(got.Vocabs) != 0 || len(got.Words) != 0 {
		t.Errorf("error %d and\n%s\nwant %d", e, short(tellDict(got)), want)
	}
}

// squares answers the dictionary of the chapter's example.
func squares(t *testing.T) api.Dict {
	t.Helper()
	return api.Dict{Vocabs: vocabs(uses("a"), uses("b")), Words: words(word(t, "a", ": quad ( n -- m ) sq sq ;"), word(t, "a", ": sq ( n -- m ) dup * ;"))}
}

// The chapter's example

func TestExample(t *testing.T) {
	d := dict.New()
	for _, name := range []string{"a", "b"} {
		d, _ = dict.Vocab(d, name, nil)
	}
	for _, source := range []string{": sq ( n -- m ) dup * ;", ": quad ( n -- m ) sq sq ;"} {
		d, _ = dict.Define(d, "a", def(t, source))
	}
	same(t, d, squares(t))
	if names, e := dict.Hang(d, "sq"); !slices.Equal(names, []string{"quad"}) || e != api.OK {
		t.Errorf("Hang: %v, %d", names, e)
	}
	define := func(vocab, source string, want api.Errno) {
		t.Helper()
		got, e := dict.Define(d, vocab, def(t, source))
		refuses(t, want, got, e)
	}
	define("a", ": sq ( n -- ) drop ;", api.ErrEffect)
	define("a", ": sq ( n -- m ) ;", api.ErrEffect)
	define("b", ": cube ( n -- m ) dup sq * ;", api.ErrName)
	define("b", ": sq ( n -- m ) 1 + ;", api.ErrTwice)
	got, e := dict.Forget(d, "sq")
	refuses(t, api.ErrUsed, got, e)
	d, _ = dict.Use(d, "b", "a")
	got, e = dict.Define(d, "b", def(t, ": cube ( n -- m ) dup sq * ;"))
	want := squares(t)
	want.Vocabs[1].Uses = []string{"a"}
	want.Words = slices.Insert(want.Words, 0, word(t, "b", ": cube ( n -- m ) dup sq * ;"))
	gives(t, want, got, e)
}

// P14.1: vocabularies

func TestNew(t *testing.T) {
	if d := dict.New(); len(d.Vocabs) != 0 || len(d.Words) != 0 || dict.Check(d) != api.OK {
		t.Errorf("New: %s", tellDict(d))
	}
}

// some answers a dictionary of vocabularies that use others, and of no words.
func some() api.Dict {
	return api.Dict{Vocabs: vocabs(uses("a"), uses("b", "a"), uses("c", "b"), uses("d", "c", "a"), uses("e"))}
}

func TestVocab(t *testing.T) {
	d, e := dict.Vocab(dict.New(), "m", nil)
	gives(t, api.Dict{Vocabs: vocabs(uses("m"))}, d, e)
	d, e = dict.Vocab(d, "z", []string{"m"})
	gives(t, api.Dict{Vocabs: vocabs(uses("m"), uses("z", "m"))}, d, e)
	d, e = dict.Vocab(d, "a", []string{"z", "m"})
	gives(t, api.Dict{Vocabs: vocabs(uses("a", "z", "m"), uses("m"), uses("z", "m"))}, d, e)
	d, e = dict.Vocab(d, "o", []string{})
	gives(t, api.Dict{Vocabs: vocabs(uses("a", "z", "m"), uses("m"), uses("o"), uses("z", "m"))}, d, e)
	w := squares(t)
	got, e := dict.Vocab(w, "aa", []string{"b"})
	w.Vocabs = vocabs(uses("a"), uses("aa", "b"), uses("b"))
	gives(t, w, got, e)
}

// Names stand in the order of their bytes.
func TestVocabsRiseByBytes(t *testing.T) {
	names := []string{"é", "b", "B", "ab", "a", "日", "~", "a\"", "😀", "?"}
	d := dict.New()
	for _, name := range names {
		var e api.Errno
		if d, e = dict.Vocab(d, name, nil); e != api.OK {
			t.Fatalf("Vocab %q: %d", name, e)
		}
	}
	want := []string{"?", "B", "a", "a\"", "ab", "b", "~", "é", "日", "😀"}
	for i, v := range d.Vocabs {
		if v.Name != want[i] {
			t.Errorf("vocabulary %d is %q, want %q", i, v.Name, want[i])
		}
	}
}

func TestNamesOfVocabs(t *testing.T) {
	for _, name := range []string{"", " ", "a b", "1", "-1", "٣", "000", "99999999999999999999999", "!", "\"a", "a\n", "\u00a0", "\ufffd", "\xff", "a\x7f", strings.Repeat("a", api.MaxName+1)} {
		d, e := dict.Vocab(some(), name, nil)
		refuses(t, api.ErrName, d, e)
		if dict.Check(api.Dict{Vocabs: vocabs(uses(name))}) != api.ErrForm {
			t.Errorf("a vocabulary %q is sound", name)
		}
	}
	// What may not be called may still be the name of a vocabulary, and what is called, too.
	for _, name := range []string{"[", "t", ":", "--", "dup", "!a", "a\"", "1a", "-", "1٣", strings.Repeat("é", api.MaxName)} {
		d, e := dict.Vocab(dict.New(), name, nil)
		gives(t, api.Dict{Vocabs: vocabs(uses(name))}, d, e)
	}
}

func TestVocabIsRefused(t *testing.T) {
	for _, c := range []struct {
		name string
		uses []string
		e    api.Errno
	}{
		{"a", nil, api.ErrTwice},
		{"e", []string{"a"}, api.ErrTwice},
		{"x", []string{"a", "b", "a"}, api.ErrTwice},
		{"x", []string{"a", "a"}, api.ErrTwice},
		{"x", []string{"y"}, api.ErrNone},
		{"x", []string{"a", "b", ""}, api.ErrNone},
		{"x", []string{"x"}, api.ErrNone},
		{"x", []string{"A"}, api.ErrNone},
		{"x", []string{"\xff"}, api.ErrNone},
		// Of several errors the first of the promise counts.
		{"1", []string{"a", "a"}, api.ErrName},
		{"1", []string{"y"}, api.ErrName},
		{"x", []string{"y", "y"}, api.ErrTwice},
		{"a", []string{"y"}, api.ErrTwice},
		{"x", []string{"y", "a", "a"}, api.ErrTwice},
	} {
		d, e := dict.Vocab(some(), c.name, c.uses)
		if e != c.e {
			t.Errorf("Vocab %q of %q: %d, want %d", c.name, c.uses, e, c.e)
		}
		refuses(t, c.e, d, e)
	}
}

func TestUse(t *testing.T) {
	d, e := dict.Use(some(), "e", "d")
	want := some()
	want.Vocabs[4].Uses = []string{"d"}
	gives(t, want, d, e)
	d, e = dict.Use(d, "e", "a")
	want.Vocabs[4].Uses = []string{"d", "a"}
	gives(t, want, d, e)
	d, e = dict.Use(d, "d", "b")
	want.Vocabs[3].Uses = []string{"c", "a", "b"}
	gives(t, want, d, e)
	d, e = dict.Use(some(), "a", "e")
	want = some()
	want.Vocabs[0].Uses = []string{"e"}
	gives(t, want, d, e)
}

func TestUseIsRefused(t *testing.T) {
	for _, c := range []struct {
		name, more string
		e          api.Errno
	}{
		{"x", "a", api.ErrNone}, {"a", "x", api.ErrNone}, {"x", "y", api.ErrNone}, {"x", "x", api.ErrNone}, {"", "a", api.ErrNone}, {"a", "\xff", api.ErrNone},
		{"b", "a", api.ErrTwice}, {"d", "a", api.ErrTwice}, {"d", "c", api.ErrTwice},
		{"a", "a", api.ErrCycle}, {"e", "e", api.ErrCycle},
		{"a", "b", api.ErrCycle}, {"a", "c", api.ErrCycle}, {"a", "d", api.ErrCycle}, {"b", "c", api.ErrCycle}, {"b", "d", api.ErrCycle}, {"c", "d", api.ErrCycle},
	} {
		d, e := dict.Use(some(), c.name, c.more)
		if e != c.e {
			t.Errorf("Use %s, %s: %d, want %d", c.name, c.more, e, c.e)
		}
		refuses(t, c.e, d, e)
	}
}

// P14.3: words

// family answers words that hang on one another, some on themselves.
func family(t *testing.T) api.Dict {
	t.Helper()
	return api.Dict{Vocabs: vocabs(uses("a"), uses("b", "a")), Words: words(
		word(t, "a", ": down ( n -- ) dup 0 > [ 1 - down ] [ drop ] if ;"),
		word(t, "a", ": even ( n -- b ) dup 0 = [ drop t ] [ 1 - odd ] if ;"),
		word(t, "b", ": far ( -- l ) { 1 { [ [ { [ one ] } ] ] } } ;"),
		word(t, "b", ": further ( -- l ) far 1 drop ;"),
		word(t, "a", ": odd ( n -- b ) dup 0 = [ drop f ] [ 1 - even ] if ;"),
		word(t, "a", ": one ( -- n ) 1 ;"),
		word(t, "b", ": oneven ( -- b ) one even ;"),
		word(t, "b", ": zero ( -- n ) 0 ;"),
	)}
}

func TestLookup(t *testing.T) {
	d := family(t)
	for _, w := range d.Words {
		if got, e := dict.Lookup(d, w.Def.Name); tellWord(got) != tellWord(w) || e != api.OK {
			t.Errorf("Lookup: %s, %d, want %s", tellWord(got), e, tellWord(w))
		}
	}
	for _, name := range []string{"", "on", "onee", "dup", "a", "\xff", "1", "t"} {
		if got, e := dict.Lookup(d, name); tellWord(got) != tellWord(api.Word{}) || e != api.ErrNone {
			t.Errorf("Lookup %q: %s, %d", name, tellWord(got), e)
		}
	}
}

func TestHang(t *testing.T) {
	d := family(t)
	for name, want := range map[string]string{
		"down": "down", "even": "even odd oneven", "odd": "even odd oneven", "one": "far further oneven", "far": "further", "further": "", "oneven": "", "zero": "",
	} {
		if got, e := dict.Hang(d, name); strings.Join(got, " ") != want || e != api.OK {
			t.Errorf("Hang %s: %v, %d, want %s", name, got, e, want)
		}
	}
	for _, name := range []string{"", "on", "dup", "a", "\xff"} {
		if got, e := dict.Hang(d, name); len(got) != 0 || e != api.ErrNone {
			t.Errorf("Hang %q: %v, %d", name, got, e)
		}
	}
}

func TestForget(t *testing.T) {
	d := family(t)
	for _, name := range []string{"even", "odd", "one", "far"} {
		got, e := dict.Forget(d, name)
		refuses(t, api.ErrUsed, got, e)
	}
	for i, name := range []string{"down", "further", "oneven", "zero"} {
		got, e := dict.Forget(d, name)
		want := family(t)
		at := []int{0, 3, 6, 7}[i]
		want.Words = slices.Delete(want.Words, at, at+1)
		gives(t, want, got, e)
		if _, e := dict.Lookup(got, name); e != api.ErrNone {
			t.Errorf("%s is still there", name)
		}
	}
	for _, name := range []string{"", "on", "dup", "a", "\xff"} {
		got, e := dict.Forget(d, name)
		refuses(t, api.ErrNone, got, e)
	}
}

// What nothing hangs on any more can be forgotten.
func TestForgetOneByOne(t *testing.T) {
	d := family(t)
	for _, name := range []string{"further", "far", "oneven", "one", "down", "zero"} {
		var e api.Errno
		if d, e = dict.Forget(d, name); e != api.OK {
			t.Fatalf("Forget %s: %d", name, e)
		}
	}
	got, e := dict.Forget(d, "even") // odd calls it, and it calls odd
	refuses(t, api.ErrUsed, got, e)
	if names, _ := dict.Hang(d, "odd"); !slices.Equal(names, []string{"even", "odd"}) {
		t.Errorf("Hang: %v", names)
	}
}

func TestDefs(t *testing.T) {
	d := family(t)
	got, e := dict.Defs(d)
	if len(got) != len(d.Words) || e != api.OK {
		t.Fatalf("Defs: %d of them, %d", len(got), e)
	}
	for i, w := range d.Words {
		if tellDef(got[i]) != tellDef(w.Def) {
			t.Errorf("Defs: %s, want %s", tellDef(got[i]), tellDef(w.Def))
		}
	}
	if got, e := dict.Defs(some()); len(got) != 0 || e != api.OK {
		t.Errorf("Defs: %d of them, %d", len(got), e)
	}
}
