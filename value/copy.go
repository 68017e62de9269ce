package value

import (
	"slices"

	"quire/api"
)

// mostCopied is far more than a sound value holds.
const mostCopied = 1 << 16

// copier copies values that need not be sound, as MustList is handed such, too. When it has no parts left, it leaves lists as they are: those that hold themselves would have no end.
type copier struct{ left int }

func (c *copier) value(v api.Value) api.Value {
	if list, ok := v.(api.List); ok && c.spend(len(list.Items)) {
		return api.List{Items: copyEach(list.Items, c.value)}
	}
	if quot, ok := v.(api.Quot); ok && c.spend(len(quot.Items)) {
		return api.Quot{Items: copyEach(quot.Items, c.item)}
	}
	return v
}

func (c *copier) item(item api.Item) api.Item {
	if push, ok := item.(api.Push); ok {
		return api.Push{V: c.value(push.V)}
	}
	return item
}

// spend answers whether so many parts more may be copied.
func (c *copier) spend(parts int) bool {
	if parts > c.left {
		return false
	}
	c.left -= parts
	return true
}

func copyEach[T any](list []T, part func(T) T) []T {
	copied := slices.Clone(list)
	for i, x := range copied {
		copied[i] = part(x)
	}
	return copied
}
