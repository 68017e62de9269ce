package dict_test

import (
	"fmt"
	"slices"
	"testing"

	"quire/api"
	"quire/dict"
)

// many answers so many words of a vocabulary a, each of which calls the one ahead of it.
func many(n int) []api.Word {
	all := words(api.Word{Vocab: "a", Def: made("w000", 0, 1, push(num(1)))})
	for i := 1; i < n; i++ {
		all = append(all, api.Word{Vocab: "a", Def: made(fmt.Sprintf("w%03d", i), 0, 1, call(fmt.Sprintf("w%03d", i-1)))})
	}
	return all
}

// row answers so many vocabularies, each of which uses all that stand ahead of it.
func row(n int) []api.Vocab {
	var all []api.Vocab
	var names []string
	for i := range n {
		name := fmt.Sprintf("v%03d", i)
		all = append(all, uses(name, names...))
		names = append(slices.Clip(names), name)
	}
	return all
}

func TestMaxVocabs(t *testing.T) {
	d := api.Dict{Vocabs: row(api.MaxVocabs - 1)}
	got, e := dict.Vocab(d, "v063", names(d))
	gives(t, api.Dict{Vocabs: row(api.MaxVocabs)}, got, e)
	for _, name := range []string{"a", "v0000", "z"} {
		more, e := dict.Vocab(got, name, nil)
		refuses(t, api.ErrLarge, more, e)
		more, e = dict.Vocab(got, name, names(got))
		refuses(t, api.ErrLarge, more, e)
		// Other errors come ahead.
		more, e = dict.Vocab(got, name, []string{"none"})
		refuses(t, api.ErrNone, more, e)
		more, e = dict.Vocab(got, name, []string{"v000", "v000"})
		refuses(t, api.ErrTwice, more, e)
	}
	more, e := dict.Vocab(got, "v007", nil)
	refuses(t, api.ErrTwice, more, e)
	more, e = dict.Vocab(got, "7", nil)
	refuses(t, api.ErrName, more, e)
	more, e = dict.Use(got, "v000", "v063")
	refuses(t, api.ErrCycle, more, e)
	refusedEverywhere(t, api.Dict{Vocabs: row(api.MaxVocabs + 1)})
}

// names answers those of all vocabularies.
func names(d api.Dict) (all []string) {
	for _, v := range d.Vocabs {
		all = append(all, v.Name)
	}
	return all
}

// A circle may go through all vocabularies.
func TestLongCircles(t *testing.T) {
	d := api.Dict{}
	for i := range api.MaxVocabs {
		v := uses(fmt.Sprintf("v%03d", i))
		if i > 0 {
			v.Uses = []string{fmt.Sprintf("v%03d", i-1)}
		}
		d.Vocabs = append(d.Vocabs, v)
	}
	if e := dict.Check(d); e != api.OK {
		t.Errorf("a row: %d", e)
	}
	got, e := dict.Use(d, "v000", "v063")
	refuses(t, api.ErrCycle, got, e)
	got, e = dict.Use(d, "v001", "v063")
	refuses(t, api.ErrCycle, got, e)
	if _, e := dict.Use(d, "v063", "v000"); e != api.OK {
		t.Errorf("the other way round: %d", e)
	}
	d.Vocabs[0].Uses = []string{"v063"}
	refusedEverywhere(t, d)
	d.Vocabs[0].Uses = []string{"v001"}
	refusedEverywhere(t, d)
}

func TestMaxWords(t *testing.T) {
	d := api.Dict{Vocabs: vocabs(uses("a"), uses("b", "a")), Words: many(api.MaxWords - 1)}
	got, e := dict.Define(d, "a", made("w511", 0, 1, call("w510")))
	full := api.Dict{Vocabs: d.Vocabs, Words: many(api.MaxWords)}
	gives(t, full, got, e)
	for _, name := range []string{"a", "w0000", "z"} {
		more, e := dict.Define(full, "b", made(name, 0, 0))
		refuses(t, api.ErrLarge, more, e)
		// The word's own errors come ahead.
		more, e = dict.Define(full, "b", made(name, 0, 0, call("none")))
		refuses(t, api.ErrName, more, e)
		more, e = dict.Define(full, "b", made(name, 0, 1))
		refuses(t, api.ErrEffect, more, e)
		more, e = dict.Define(full, "b", made(name, 1, 0, call("call")))
		refuses(t, api.ErrEffect, more, e)
	}
	more, e := dict.Define(full, "b", made("w000", 0, 0))
	refuses(t, api.ErrTwice, more, e)
	// One in the place of another is none more.
	want := api.Dict{Vocabs: d.Vocabs, Words: many(api.MaxWords)}
	want.Words[0].Def = made("w000", 0, 1, push(num(2)))
	more, e = dict.Define(full, "a", want.Words[0].Def)
	gives(t, want, more, e)
	more, e = dict.Define(full, "a", made("w000", 0, 0))
	refuses(t, api.ErrEffect, more, e)
	more, e = dict.Forget(full, "w511")
	gives(t, d, more, e)
	more, e = dict.Forget(full, "w510")
	refuses(t, api.ErrUsed, more, e)
	if hang, e := dict.Hang(full, "w000"); len(hang) != api.MaxWords-1 || !slices.IsSorted(hang) || e != api.OK {
		t.Errorf("Hang: %d of them, %d", len(hang), e)
	}
	if defs, e := dict.Defs(full); len(defs) != api.MaxWords || e != api.OK {
		t.Errorf("Defs: %d of them, %d", len(defs), e)
	}
	if w, e := dict.Lookup(full, "w511"); w.Def.Name != "w511" || e != api.OK {
		t.Errorf("Lookup: %s, %d", tellWord(w), e)
	}
}

func TestMaxArgs(t *testing.T) {
	drops := slices.Repeat(items(call("drop")), api.MaxArgs)
	ones := slices.Repeat(items(push(num(1))), api.MaxArgs)
	for _, d := range []api.Def{made("m", api.MaxArgs, 0, drops...), made("m", 0, api.MaxArgs, ones...), made("m", api.MaxArgs, api.MaxArgs, append(slices.Clone(drops), ones...)...)} {
		got, e := dict.Define(some(), "a", d)
		want := some()
		want.Words = words(api.Word{Vocab: "a", Def: d})
		gives(t, want, got, e)
	}
	got, e := dict.Define(some(), "a", made("m", 0, api.MaxArgs, append(slices.Clone(ones), ones...)...))
	refuses(t, api.ErrLarge, got, e)
	got, e = dict.Define(some(), "a", made("m", 0, api.MaxArgs+1, append(slices.Clone(ones), push(num(1)))...))
	refuses(t, api.ErrForm, got, e)
}

// A body may be as large as a quotation, and no more items of it may be gone through than an inference may have.
func TestLargeBodies(t *testing.T) {
	full := made("m", 0, 0, slices.Repeat(items(push(num(1)), call("drop")), (api.MaxSize-1)/2)...)
	full.Body = append(full.Body, push(num(1)))
	full.Effect.Out = 1
	got, e := dict.Define(some(), "a", full)
	want := some()
	want.Words = words(api.Word{Vocab: "a", Def: full})
	gives(t, want, got, e)
	full.Body = append(full.Body, call("neg"))
	got, e = dict.Define(some(), "a", full)
	refuses(t, api.ErrForm, got, e)

	often := func(n int) api.Def { // a quotation of 500 items that is called n times
		body := items(push(quot(slices.Repeat(items(push(num(1)), call("drop")), 250)...)))
		return made("m", 0, 0, append(append(body, slices.Repeat(items(call("dup"), call("call")), n)...), call("drop"))...)
	}
	got, e = dict.Define(some(), "a", often(8))
	want.Words[0].Def = often(8)
	gives(t, want, got, e)
	got, e = dict.Define(some(), "a", often(9))
	refuses(t, api.ErrLarge, got, e)
	want.Words[0].Def = often(9)
	refusedEverywhere(t, want)
	wrong := often(9)
	wrong.Effect = has(1, 2)
	got, e = dict.Define(some(), "a", wrong)
	refuses(t, api.ErrLarge, got, e)
}

func TestMaxHistory(t *testing.T) {
	all := make([]api.Dict, api.MaxHistory+1)
	for i := range all {
		all[i] = version(i)
	}
	now := version(1000)
	for _, bound := range []int{-1, -1 << 63, api.MaxHistory + 1, 1<<63 - 1} {
		if b, e := dict.Open(now, nil, nil, bound); b != nil || e != api.ErrArg {
			t.Errorf("Open with the bound %d: %v, %d", bound, b, e)
		}
	}
	for _, bound := range []int{0, 1, 5, api.MaxHistory} {
		for n := range len(all) + 1 {
			want := api.OK
			if n > bound {
				want = api.ErrArg
			}
			for i, lists := range [][2][]api.Dict{{all[:n], nil}, {nil, all[:n]}, {all[:n], all[:n]}, {all[:n], all[:bound]}, {all[:bound], all[:n]}} {
				b, e := dict.Open(now, lists[0], lists[1], bound)
				if e != want || (b != nil) != (e == api.OK) {
					t.Errorf("Open %d with the bound %d and %d dictionaries: %v, %d", i, bound, n, b, e)
				}
			}
		}
	}
}
