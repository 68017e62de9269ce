package dict

import (
	"quire/api"
	"quire/lex"
)

// copyOf answers a copy of a dictionary, or ErrForm, if the dictionary is not sound.
func copyOf(d api.Dict) (api.Dict, api.Errno) {
	// How many there are comes first, so that no more is copied than a dictionary may have.
	if len(d.Vocabs) > api.MaxVocabs || len(d.Words) > api.MaxWords {
		return api.Dict{}, api.ErrForm
	}
	c, ok := copied(d)
	if !ok || !soundVocabs(c) || !soundWords(c) {
		return api.Dict{}, api.ErrForm
	}
	return c, api.OK
}

// soundVocabs answers whether the vocabularies of d are such as a sound dictionary has.
func soundVocabs(d api.Dict) bool {
	last := ""
	for _, v := range d.Vocabs {
		if v.Name <= last || !lex.Name(v.Name) {
			return false
		}
		last = v.Name
	}
	// Only where the names rise can a vocabulary be found by its name.
	for _, v := range d.Vocabs {
		if anyTwice(v.Uses) || !allVocabs(d, v.Uses) {
			return false
		}
	}
	return !anyCircle(usesOf(d))
}

// soundWords answers whether the words of d, whose vocabularies are sound, are such as a sound dictionary has.
func soundWords(d api.Dict) bool {
	last := ""
	for _, w := range d.Words {
		if _, there := placeOfVocab(d, w.Vocab); !there || w.Def.Name <= last || !mayBeDefined(w.Def.Name) {
			return false
		}
		last = w.Def.Name
	}
	// Only where the names rise can a word be found by its name.
	for _, w := range d.Words {
		if fit(d, w) != api.OK {
			return false
		}
	}
	return true
}
