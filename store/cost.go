package store

import (
	"quire/api"
)

// cost answers how many words a sound value takes when it is laid.
func cost(v api.Value) int {
	switch x := v.(type) {
	case api.Str:
		return textCost(x.S)
	case api.List:
		return partsCost(x.Items, cost)
	case api.Quot:
		return partsCost(x.Items, itemCost)
	}
	return 0
}

func itemCost(item api.Item) int {
	switch x := item.(type) {
	case api.Push:
		return cost(x.V)
	case api.Call:
		return textCost(x.Name)
	}
	return 0
}

func partsCost[T any](parts []T, part func(T) int) int {
	words := 1
	for _, p := range parts {
		words += 1 + part(p)
	}
	return words
}

func textCost(s string) int { return 1 + textFields(s) }
