package value

import (
	"quire/api"
)

// addBoxes puts the numbers of a sound value's boxes behind others.
func addBoxes(numbers []int, v api.Value) []int {
	if box, ok := v.(api.Box); ok {
		return append(numbers, box.N)
	}
	if list, ok := v.(api.List); ok {
		for _, part := range list.Items {
			numbers = addBoxes(numbers, part)
		}
	}
	if quot, ok := v.(api.Quot); ok {
		for _, item := range quot.Items {
			numbers = addItemBoxes(numbers, item)
		}
	}
	return numbers
}

func addItemBoxes(numbers []int, item api.Item) []int {
	if push, ok := item.(api.Push); ok {
		return addBoxes(numbers, push.V)
	}
	return numbers
}
