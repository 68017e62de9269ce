package dict_test

import (
	"slices"
	"strings"
	"testing"

	"quire/api"
	"quire/dict"
)

// What a sound dictionary is: all calls answer ErrForm for others.

// refusedEverywhere fails the test, unless all calls refuse a dictionary.
func refusedEverywhere(t *testing.T, d api.Dict) {
	t.Helper()
	fine := three(t)
	if e := dict.Check(d); e != api.ErrForm {
		t.Errorf("Check: %d of\n%s", e, short(tellDict(d)))
	}
	for _, name := range []string{"a", "m", "1", ""} {
		got, e := dict.Vocab(d, name, []string{"a", "a"})
		refuses(t, api.ErrForm, got, e)
		got, e = dict.Vocab(d, name, nil)
		refuses(t, api.ErrForm, got, e)
		got, e = dict.Use(d, name, "b")
		refuses(t, api.ErrForm, got, e)
		got, e = dict.Use(d, "b", name)
		refuses(t, api.ErrForm, got, e)
		got, e = dict.Define(d, "a", made(name, 0, 0))
		refuses(t, api.ErrForm, got, e)
		got, e = dict.Define(d, "none", made(name, 0, 0))
		refuses(t, api.ErrForm, got, e)
		got, e = dict.Forget(d, name)
		refuses(t, api.ErrForm, got, e)
		if w, e := dict.Lookup(d, name); tellWord(w) != tellWord(api.Word{}) || e != api.ErrForm {
			t.Errorf("Lookup: %s, %d", tellWord(w), e)
		}
		if names, e := dict.Hang(d, name); len(names) != 0 || e != api.ErrForm {
			t.Errorf("Hang: %v, %d", names, e)
		}
	}
	if defs, e := dict.Defs(d); len(defs) != 0 || e != api.ErrForm {
		t.Errorf("Defs: %d of them, %d", len(defs), e)
	}
	for _, bound := range []int{-1, 0, 3, api.MaxHistory, api.MaxHistory + 1} {
		for _, c := range []struct {
			d            api.Dict
			past, future []api.Dict
		}{{d, nil, nil}, {fine, dicts(d), nil}, {fine, nil, dicts(d)}, {fine, dicts(fine, fine, d), dicts(fine)}, {fine, dicts(fine), dicts(fine, d)}, {fine, dicts(fine, fine, fine, fine, d), nil}} {
			if b, e := dict.Open(c.d, c.past, c.future, bound); b != nil || e != api.ErrForm {
				t.Errorf("Open: %v, %d", b, e)
			}
		}
	}
	b, _ := dict.Open(fine, dicts(dict.New()), dicts(some()), 3)
	if e := b.Set(d); e != api.ErrForm {
		t.Errorf("Set: %d", e)
	}
	past, future := b.Lists()
	if tellDict(b.Dict()) != tellDict(fine) || tellAll(past) != tellAll(dicts(dict.New())) || tellAll(future) != tellAll(dicts(some())) {
		t.Errorf("a Set that is refused has changed the book")
	}
}

func TestVocabsThatAreNone(t *testing.T) {
	for _, all := range [][]api.Vocab{
		vocabs(uses("")), vocabs(uses("1")), vocabs(uses("a b")), vocabs(uses("\xff")), vocabs(uses("a"), uses("!")), vocabs(api.Vocab{}),
		vocabs(uses("b"), uses("a")), vocabs(uses("a"), uses("a")), vocabs(uses("a"), uses("c"), uses("b")), vocabs(uses("a"), uses("b"), uses("b")), vocabs(uses("a"), uses("B")), vocabs(uses("é"), uses("z")),
		vocabs(uses("a", "b")), vocabs(uses("a", "")), vocabs(uses("a"), uses("b", "a", "c")),
		vocabs(uses("a", "a")), vocabs(uses("a"), uses("b", "a", "b")),
		vocabs(uses("a"), uses("b", "a", "a")), vocabs(uses("a"), uses("b"), uses("c", "a", "b", "a")),
		vocabs(uses("a", "b"), uses("b", "a")), vocabs(uses("a", "c"), uses("b", "a"), uses("c", "b")), vocabs(uses("a"), uses("b", "a", "e"), uses("c", "b"), uses("d", "c", "a"), uses("e", "a", "d")),
	} {
		refusedEverywhere(t, api.Dict{Vocabs: all})
	}
}

func TestWordsThatAreNone(t *testing.T) {
	changes := map[string]func(*api.Dict){
		"no such vocabulary":           func(d *api.Dict) { d.Words[0].Vocab = "x" },
		"no vocabulary":                func(d *api.Dict) { d.Words[3].Vocab = "" },
		"its vocabulary is gone":       func(d *api.Dict) { d.Vocabs = d.Vocabs[:3] },
		"all vocabularies are gone":    func(d *api.Dict) { d.Vocabs = nil },
		"names that fall":              func(d *api.Dict) { slices.Reverse(d.Words) },
		"two names that fall":          func(d *api.Dict) { d.Words[0], d.Words[1] = d.Words[1], d.Words[0] },
		"a name that is there twice":   func(d *api.Dict) { d.Words = append(d.Words, d.Words[3]) },
		"the same of two vocabularies": func(d *api.Dict) { d.Words[3].Def.Name = "cx" },
		"no name":                      func(d *api.Dict) { d.Words[0].Def.Name = "" },
		"a reserved word":              func(d *api.Dict) { d.Words[3].Def.Name = "t" },
		"a primitive":                  func(d *api.Dict) { d.Words[3].Def.Name = "dup" },
		"a number":                     func(d *api.Dict) { d.Words[0].Def.Name = "1" },
		"a call of none":               func(d *api.Dict) { d.Words[1].Def.Body = items(call("none")) },
		"a call of what is gone":       func(d *api.Dict) { d.Words = d.Words[1:] },
		"a call that is not seen":      func(d *api.Dict) { d.Words[2].Def.Body = items(call("ax")) },
		"a call backwards":             func(d *api.Dict) { d.Words[0].Def.Body = items(call("bx")) },
		"a use that is gone":           func(d *api.Dict) { d.Vocabs[1].Uses = nil },
		"a word that has moved":        func(d *api.Dict) { d.Words[1].Vocab = "d" },
		"a call in a list":             func(d *api.Dict) { d.Words[3].Def.Body = items(push(list(quot(push(quot(call("ax"))))))) },
		"a call in a quotation":        func(d *api.Dict) { d.Words[3].Def.Body = items(push(quot(push(quot(call("none")))))) },
		"too much is left":             func(d *api.Dict) { d.Words[3].Def.Effect = has(0, 0) },
		"too little is left":           func(d *api.Dict) { d.Words[3].Def.Effect = has(0, 2) },
		"too much is taken":            func(d *api.Dict) { d.Words[3].Def.Effect = has(1, 2) },
		"an effect that is none":       func(d *api.Dict) { d.Words[3].Def.Effect = has(-1, 0) },
		"one that is too large":        func(d *api.Dict) { d.Words[3].Def = made("dx", 17, 0, slices.Repeat(items(call("drop")), 17)...) },
		"one that another follows": func(d *api.Dict) {
			d.Words = words(api.Word{Vocab: "a", Def: made("ax", -1, 0)}, api.Word{Vocab: "a", Def: made("ay", -1, 0, call("ax"))})
		},
		"one that only the word itself has": func(d *api.Dict) { d.Words[3].Def = made("dx", 0, 17, call("dx")) },
		"another's effect":                  func(d *api.Dict) { d.Words[0].Def = made("ax", 0, 0) },
		"a quotation that does not fit":     func(d *api.Dict) { d.Words[3].Def = made("dx", 1, 0, call("call")) },
		"too many words":                    func(d *api.Dict) { d.Words = many(api.MaxWords + 1) },
	}
	if dict.Check(three(t)) != api.OK {
		t.Fatalf("the dictionary is not sound without a change")
	}
	for name, change := range changes {
		d := three(t)
		change(&d)
		if dict.Check(d) == api.OK {
			t.Errorf("%s: the dictionary is sound", name)
		}
		refusedEverywhere(t, d)
	}
	for _, body := range badBodies() {
		d := three(t)
		d.Words[3].Def.Body = body
		refusedEverywhere(t, d)
	}
}

// A dictionary that is not sound comes ahead of all else, whatever else is handed in.
func TestFormComesFirst(t *testing.T) {
	bad := api.Dict{Vocabs: vocabs(uses("1"))}
	got, e := dict.Define(bad, "", made("", -1, 99, nil))
	refuses(t, api.ErrForm, got, e)
	got, e = dict.Vocab(bad, "\xff", slices.Repeat([]string{""}, 1000))
	refuses(t, api.ErrForm, got, e)
}

// R1: whatever is handed in, calls answer.
func TestAnyArguments(t *testing.T) {
	names := []string{"", "a", "ax", "dup", "1", "\xff\xfe", strings.Repeat("a", 1<<16)}
	for _, d := range []api.Dict{{}, some(), three(t), {Words: make([]api.Word, 3)}, {Vocabs: make([]api.Vocab, 3)}, {Vocabs: make([]api.Vocab, 1<<16), Words: make([]api.Word, 1<<16)}} {
		for _, a := range names {
			dict.Lookup(d, a)
			dict.Hang(d, a)
			dict.Forget(d, a)
			dict.Vocab(d, a, names)
			dict.Vocab(d, a, slices.Repeat(names, 1000))
			for _, b := range names {
				dict.Use(d, a, b)
				dict.Vocab(d, a, []string{b})
				dict.Define(d, a, api.Def{Name: b})
				dict.Define(d, a, api.Def{Name: b, Body: make([]api.Item, 3)})
			}
		}
		dict.Defs(d)
		dict.Open(d, make([]api.Dict, 1000), make([]api.Dict, 3), 1<<62)
	}
}
