package value

import (
	"unicode/utf8"

	"quire/api"
	"quire/parse"
)

// measure is how large a value is, as far as it was gone through. That ends where the value is too large to be sound, so lists that hold themselves, or one another over and over, come to an end.
type measure struct{ size, depth int }

// measured answers how large v is, or ErrForm, if it is not sound.
func measured(v api.Value) (measure, api.Errno) {
	var m measure
	if !m.value(v, 0) {
		return measure{}, api.ErrForm
	}
	return m, api.OK
}

// value goes through v, which stands within so many lists and quotations, and answers whether it may stand there.
func (m *measure) value(v api.Value, around int) bool {
	if !m.count() {
		return false
	}
	if list, ok := v.(api.List); ok {
		return m.enter(around+1) && every(list.Items, m.value, around+1)
	}
	if quot, ok := v.(api.Quot); ok {
		return m.enter(around+1) && every(quot.Items, m.item, around+1)
	}
	return soundAlone(v)
}

// item does the same for an item.
func (m *measure) item(item api.Item, around int) bool {
	if push, ok := item.(api.Push); ok {
		return m.value(push.V, around)
	}
	call, ok := item.(api.Call)
	return ok && m.count() && callable(call)
}

func (m *measure) count() bool {
	m.size++
	return m.size <= api.MaxSize
}

func (m *measure) enter(depth int) bool {
	m.depth = max(m.depth, depth)
	return depth <= api.MaxNest
}

func every[T any](parts []T, sound func(T, int) bool, around int) bool {
	for _, part := range parts {
		if !sound(part, around) {
			return false
		}
	}
	return true
}

// soundAlone answers whether v is a sound value of those that hold no others.
func soundAlone(v api.Value) bool {
	if number, ok := v.(api.Int); ok {
		return api.MinInt <= number.N && number.N <= api.MaxInt
	}
	if text, ok := v.(api.Str); ok {
		return len(text.S) <= api.MaxStr && utf8.ValidString(text.S)
	}
	if box, ok := v.(api.Box); ok {
		return 1 <= box.N && box.N <= api.MaxBoxes
	}
	_, ok := v.(api.Bool)
	return ok
}

// callable leaves it to the writer of sources, which knows the reserved words, whether there is such a name.
func callable(call api.Call) bool {
	_, e := parse.Text([]api.Item{call})
	return e == api.OK
}
