package prim

import (
	"slices"
	"unicode/utf8"

	"quire/api"
)

// length answers how many characters, values or items v has.
func length(v api.Value) int64 {
	switch x := v.(type) {
	case api.Str:
		return int64(utf8.RuneCountInString(x.S))
	case api.List:
		return int64(len(x.Items))
	case api.Quot:
		return int64(len(x.Items))
	}
	return 0
}

// joined answers a with what b has behind it; they have to be of one kind.
func joined(a, b api.Value) (api.Value, api.Errno) {
	if kindOf(a) != kindOf(b) {
		return nil, api.ErrKind
	}
	switch x := a.(type) {
	case api.Str:
		return api.Str{S: x.S + text(b)}, api.OK
	case api.List:
		return api.List{Items: slices.Concat(x.Items, list(b))}, api.OK
	case api.Quot:
		return api.Quot{Items: slices.Concat(x.Items, items(b))}, api.OK
	}
	return nil, api.ErrKind
}

// nth answers the character, as a text, or the value number n.
func nth(n int64, v api.Value) (api.Value, api.Errno) {
	one, e := piece(n, n+1, v)
	if e == api.OK && kindOf(one) == lists {
		return list(one)[0], api.OK
	}
	return one, e
}

// piece answers the characters or values of v from n up to m.
func piece(n, m int64, v api.Value) (api.Value, api.Errno) {
	switch x := v.(type) {
	case api.Str:
		part, e := cut([]rune(x.S), n, m)
		return api.Str{S: string(part)}, e
	case api.List:
		part, e := cut(x.Items, n, m)
		return api.List{Items: part}, e
	}
	return nil, api.ErrKind
}

func cut[T any](row []T, n, m int64) ([]T, api.Errno) {
	if n < 0 || m < n || m > int64(len(row)) {
		return nil, api.ErrRange
	}
	return row[n:m], api.OK
}

// turned answers v with its characters or values the other way round.
func turned(v api.Value) api.Value {
	switch x := v.(type) {
	case api.Str:
		return api.Str{S: string(backwards([]rune(x.S)))}
	case api.List:
		return api.List{Items: backwards(x.Items)}
	}
	return v
}

func backwards[T any](row []T) []T {
	other := slices.Clone(row)
	slices.Reverse(other)
	return other
}
