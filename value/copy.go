package value

import (
	"quire/api"
)

// copied answers a copy of a sound value, which is small, and holds no list that holds itself.
func copied(v api.Value) api.Value {
	if list, ok := v.(api.List); ok {
		return api.List{Items: copyEach(list.Items, copied)}
	}
	if quot, ok := v.(api.Quot); ok {
		return api.Quot{Items: copyEach(quot.Items, copiedItem)}
	}
	return v
}

func copiedItem(item api.Item) api.Item {
	if push, ok := item.(api.Push); ok {
		return api.Push{V: copied(push.V)}
	}
	return item
}

func copyEach[T any](list []T, part func(T) T) []T {
	made := anew(list)
	for i, x := range made {
		made[i] = part(x)
	}
	return made
}

// anew answers a list of the same parts, which has nothing of the other's spare room.
func anew[T any](list []T) []T {
	if list == nil {
		return nil
	}
	return append(make([]T, 0, len(list)), list...)
}
