package manifest

import (
	"strings"

	"quire/api"
	"quire/lex"
	"quire/parse"
)

// The words of lines, and what stands between and behind them.
const (
	vocab = "vocab"
	uses  = "uses"
	end   = "end"

	between = " "
	lineEnd = "\n"
)

// line is a line of a text.
type line struct {
	number int
	text   string // without the line's end; nothing, where that is missing, so that nothing is made of such a line
	behind bool   // it is none, but what stands behind the last
}

// lines answers a closure that cuts off the next line that is not empty each time.
func lines(s string) func() line {
	number := 0
	return func() line {
		for {
			number++
			text, rest, ended := strings.Cut(s, lineEnd)
			if !ended {
				return line{number: number, behind: text == ""}
			}
			s = rest
			if text != "" {
				return line{number: number, text: text}
			}
		}
	}
}

// read answers the manifest that begins with a line, or the number of the line that can't stand in it.
func read(first line, next func() line) (m api.Manifest, fault int) {
	name, ok := namesOf(first.text, vocab)
	if !ok || len(name) > 1 {
		return api.Manifest{}, first.number
	}
	m.Name = name[0]
	l := next()
	if m.Uses, ok = namesOf(l.text, uses); ok {
		l = next()
	}
	for ; l.text != end; l = next() {
		def, ok := definitionOf(l.text)
		if !ok {
			return api.Manifest{}, l.number
		}
		m.Defs = append(m.Defs, def)
	}
	return m, 0
}

// namesOf answers the names that stand behind a word, or false, if the text is not that word and at least one name.
func namesOf(text, word string) ([]string, bool) {
	rest, ok := strings.CutPrefix(text, word+between)
	if !ok {
		return nil, false
	}
	// A copy, as a piece would keep the whole text alive.
	names := strings.Split(strings.Clone(rest), between)
	for _, name := range names {
		if !lex.Name(name) {
			return nil, false
		}
	}
	return names, true
}

// definitionOf answers the definition that a source is, or false, if it is not just one.
func definitionOf(source string) (api.Def, bool) {
	forms, _, e := parse.Parse(source)
	if e != api.OK || len(forms) != 1 || !forms[0].Define {
		return api.Def{}, false
	}
	return forms[0].Def, true
}
