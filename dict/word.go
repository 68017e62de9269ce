package dict

import (
	"slices"
	"strings"

	"quire/api"
	"quire/effect"
	"quire/prim"
	"quire/value"
)

// placeOfWord answers where among words with rising names the one with a name stands, or would stand.
func placeOfWord(d api.Dict, name string) (int, bool) {
	return slices.BinarySearchFunc(d.Words, name, func(w api.Word, name string) int { return strings.Compare(w.Def.Name, name) })
}

// mayBeDefined answers whether a name may be called and is no primitive.
func mayBeDefined(name string) bool {
	return value.CheckItems([]api.Item{api.Call{Name: name}}) == api.OK && !prim.Is(name)
}

// bounded answers whether an effect is one that a word may have.
func bounded(x api.Effect) bool {
	return 0 <= x.In && x.In <= api.MaxArgs && 0 <= x.Out && x.Out <= api.MaxArgs
}

// refusal answers why a definition can't be put into d whatever its body does, or OK.
func refusal(d api.Dict, w api.Word) api.Errno {
	if _, there := placeOfVocab(d, w.Vocab); !there {
		return api.ErrNone
	}
	if !mayBeDefined(w.Def.Name) {
		return api.ErrName
	}
	if at, there := placeOfWord(d, w.Def.Name); there && d.Words[at].Vocab != w.Vocab {
		return api.ErrTwice
	}
	return api.OK
}

// with answers d with a word, in the place of the one with its name.
func with(d api.Dict, w api.Word) api.Dict {
	at, there := placeOfWord(d, w.Def.Name)
	if there {
		d.Words[at] = w
	} else {
		d.Words = slices.Insert(d.Words, at, w)
	}
	return d
}

// misfit answers why d can't be with a word that was just put into it, or OK. The word's own faults come ahead of there being too many, and that ahead of those of others.
func misfit(d api.Dict, w api.Word) api.Errno {
	if e := fit(d, w); e != api.OK {
		return e
	}
	if len(d.Words) > api.MaxWords {
		return api.ErrLarge
	}
	for _, other := range d.Words {
		if fit(d, other) != api.OK {
			return api.ErrEffect
		}
	}
	return api.OK
}

// fit answers OK, if the body of a word of d calls only what it may, and has the effect of its definition.
func fit(d api.Dict, w api.Word) api.Errno {
	known, ok := called(d, w)
	if !ok {
		return api.ErrName
	}
	inferred, e := effect.Of(w.Def.Body, known)
	if e != api.OK {
		return e
	}
	if inferred != w.Def.Effect {
		return api.ErrEffect
	}
	return api.OK
}

// called answers the words that one of d calls, or false, if it calls what is neither a primitive nor seen. No others bear on its effect.
func called(d api.Dict, w api.Word) ([]api.Known, bool) {
	var known []api.Known
	for _, name := range callsIn(w.Def.Body) {
		at, there := placeOfWord(d, name)
		switch {
		case there && sees(d, w.Vocab, d.Words[at].Vocab):
			known = append(known, api.Known{Name: name, Effect: d.Words[at].Def.Effect})
		case there || !prim.Is(name):
			return nil, false
		}
	}
	return known, true
}

// sees answers whether the words of a vocabulary may call those of another.
func sees(d api.Dict, vocab, other string) bool {
	at, _ := placeOfVocab(d, vocab)
	return vocab == other || slices.Contains(d.Vocabs[at].Uses, other)
}

// callers answers for each word the places of those that call it.
func callers(d api.Dict) [][]int {
	links := make([][]int, len(d.Words))
	for i, w := range d.Words {
		for _, name := range callsIn(w.Def.Body) {
			if at, there := placeOfWord(d, name); there {
				links[at] = append(links[at], i)
			}
		}
	}
	return links
}
