package value

import (
	"slices"

	"quire/api"
)

// same answers whether two sound values are equal. What is neither a list nor a quotation holds none, so the language can compare it.
func same(a, b api.Value) bool {
	if list, ok := a.(api.List); ok {
		other, ok := b.(api.List)
		return ok && slices.EqualFunc(list.Items, other.Items, same)
	}
	if quot, ok := a.(api.Quot); ok {
		other, ok := b.(api.Quot)
		return ok && slices.EqualFunc(quot.Items, other.Items, sameItem)
	}
	return a == b
}

func sameItem(a, b api.Item) bool {
	if push, ok := a.(api.Push); ok {
		other, ok := b.(api.Push)
		return ok && same(push.V, other.V)
	}
	return a == b
}
