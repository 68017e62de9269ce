package parse

import (
	"unicode/utf8"

	"quire/api"
)

// soundForm answers whether a form has a text.
func soundForm(form api.Form) bool {
	if form.Define {
		return form.Item == nil && soundDefinition(form.Def)
	}
	def := form.Def
	beside := def.Name != "" || def.Effect != api.Effect{} || len(def.Body) > 0
	return !beside && soundItem(form.Item)
}

func soundDefinition(def api.Def) bool {
	return callable(def.Name) && soundSide(def.Effect.In) && soundSide(def.Effect.Out) && soundItems(def.Body)
}

func soundSide(n int) bool { return 0 <= n && n <= api.MaxArgs }

func soundItems(items []api.Item) bool {
	for _, item := range items {
		if !soundItem(item) {
			return false
		}
	}
	return true
}

func soundItem(item api.Item) bool {
	m := measure{left: api.MaxSize}
	return m.item(item, api.MaxNest)
}

// measure counts down how many values and items there may still be within one item. So lists that hold themselves, or one another over and over, come to an end.
type measure struct{ left int }

func (m *measure) more() bool {
	m.left--
	return m.left >= 0
}

// item answers whether an item is sound, which has at most nest lists and quotations within one another, and no box.
func (m *measure) item(item api.Item, nest int) bool {
	switch x := item.(type) {
	case api.Push:
		return m.value(x.V, nest)
	case api.Call:
		return m.more() && callable(x.Name)
	}
	return false
}

// value answers the same of a value.
func (m *measure) value(v api.Value, nest int) bool {
	if !m.more() {
		return false
	}
	switch x := v.(type) {
	case api.Int:
		return api.MinInt <= x.N && x.N <= api.MaxInt
	case api.Str:
		return len(x.S) <= api.MaxStr && utf8.ValidString(x.S)
	case api.Bool:
		return true
	case api.List:
		return every(m.value, x.Items, nest)
	case api.Quot:
		return every(m.item, x.Items, nest)
	}
	return false
}

// every answers whether the parts of a list or quotation are sound, which is one of the nest that there may be.
func every[T any](sound func(T, int) bool, parts []T, nest int) bool {
	if nest == 0 {
		return false
	}
	for _, part := range parts {
		if !sound(part, nest-1) {
			return false
		}
	}
	return true
}
