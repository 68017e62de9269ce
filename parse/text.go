package parse

import (
	"strconv"
	"strings"

	"quire/api"
	"quire/lex"
)

// anyName stands for each name of an effect, as a definition keeps but how many there are.
const anyName = "x"

// Text answers the text of items, which Items reads again.
func Text(items []api.Item) (string, api.Errno) {
	if !soundItems(items) {
		return "", api.ErrForm
	}
	var w writer
	w.items(items)
	return w.whole()
}

// Source answers the text of forms, which Parse reads again, each on a line of its own.
func Source(forms []api.Form) (string, api.Errno) {
	for _, form := range forms {
		if !soundForm(form) {
			return "", api.ErrForm
		}
	}
	var w writer
	for _, form := range forms {
		w.form(form)
		w.endLine()
	}
	return w.whole()
}

// writer puts words one behind the other. All that it is handed is sound.
type writer struct {
	text  strings.Builder
	begun bool // a word stands on the line
}

// whole answers what was written, unless it is too large.
func (w *writer) whole() (string, api.Errno) {
	if w.full() {
		return "", api.ErrLarge
	}
	return w.text.String(), api.OK
}

func (w *writer) full() bool { return w.text.Len() > api.MaxText }

// add leaves out what comes once the text is too large, as values that hold the same list often have far longer texts than there is memory.
func (w *writer) add(s string) {
	if !w.full() {
		w.text.WriteString(s)
	}
}

func (w *writer) word(s string) {
	if w.begun {
		w.add(" ")
	}
	w.add(s)
	w.begun = true
}

func (w *writer) endLine() {
	w.add("\n")
	w.begun = false
}

func (w *writer) form(form api.Form) {
	if form.Define {
		w.definition(form.Def)
		return
	}
	w.item(form.Item)
}

func (w *writer) definition(def api.Def) {
	w.word(define)
	w.word(def.Name)
	w.word(openEffect)
	w.side(def.Effect.In)
	w.word(middle)
	w.side(def.Effect.Out)
	w.word(closeEffect)
	w.items(def.Body)
	w.word(endDefine)
}

func (w *writer) side(names int) {
	for range names {
		w.word(anyName)
	}
}

func (w *writer) items(items []api.Item) {
	for _, item := range items {
		w.item(item)
	}
}

func (w *writer) item(item api.Item) {
	switch x := item.(type) {
	case api.Push:
		w.value(x.V)
	case api.Call:
		w.word(x.Name)
	}
}

func (w *writer) value(v api.Value) {
	if w.full() {
		return
	}
	switch x := v.(type) {
	case api.Int:
		w.word(strconv.FormatInt(x.N, 10))
	case api.Str:
		quoted, _ := lex.Quoted(x.S)
		w.word(quoted)
	case api.Bool:
		w.flag(x.B)
	case api.List:
		w.word(openList)
		for _, v := range x.Items {
			w.value(v)
		}
		w.word(closeList)
	case api.Quot:
		w.word(openQuot)
		w.items(x.Items)
		w.word(closeQuot)
	}
}

func (w *writer) flag(b bool) {
	if b {
		w.word(yes)
		return
	}
	w.word(no)
}
