package manifest

import (
	"quire/api"
	"quire/lex"
	"quire/parse"
)

// write adds the lines of a manifest, or answers false, if it is not sound.
func write(m api.Manifest, add func(string)) bool {
	if !writeNames(vocab, []string{m.Name}, add) {
		return false
	}
	if len(m.Uses) > 0 && !writeNames(uses, m.Uses, add) {
		return false
	}
	for _, def := range m.Defs {
		source, ok := sourceOf(def)
		if !ok {
			return false
		}
		add(source)
	}
	add(end + lineEnd)
	return true
}

// writeNames adds a line of a word and names, or answers false, if one of them is none.
func writeNames(word string, names []string, add func(string)) bool {
	add(word)
	for _, name := range names {
		if !lex.Name(name) {
			return false
		}
		add(between + name)
	}
	add(lineEnd)
	return true
}

// sourceOf answers the line of a definition, or false, if it has none.
func sourceOf(def api.Def) (string, bool) {
	source, e := parse.Source([]api.Form{{Define: true, Def: def}})
	if e != api.OK {
		return "", false
	}
	// Source looks at the items one by one: a body that is too large or too deep as a whole is written, but never read again.
	_, ok := definitionOf(source)
	return source, ok
}
