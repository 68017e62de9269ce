package interp

import (
	"cmp"
	"slices"

	"quire/api"
	"quire/value"
)

// rising answers whether the boxes have rising numbers from 1 on.
func rising(boxes []api.Content) bool {
	last := 0
	for _, c := range boxes {
		if c.N <= last {
			return false
		}
		last = c.N
	}
	return true
}

// place answers where among boxes with rising numbers the one with a number stands.
func place(boxes []api.Content, n int) (int, bool) {
	return slices.BinarySearchFunc(boxes, n, func(c api.Content, n int) int { return cmp.Compare(c.N, n) })
}

// reached answers a copy of a state, whose boxes have rising numbers, without those that the stack does not reach. A value that is not sound is nil in the copy, so that this is not sound either.
func reached(s api.State) api.State {
	met := make([]bool, len(s.Boxes))
	var found []int
	copyOf := func(v api.Value) api.Value {
		one, _ := value.Copy(v)
		numbers, _ := value.Boxes(one)
		for n := range numbers {
			if at, ok := place(s.Boxes, n); ok && !met[at] {
				met[at] = true
				found = append(found, at)
			}
		}
		return one
	}
	t := api.State{Next: s.Next}
	for _, v := range s.Stack {
		t.Stack = append(t.Stack, copyOf(v))
	}
	for i := 0; i < len(found); i++ {
		c := s.Boxes[found[i]]
		t.Boxes = append(t.Boxes, api.Content{N: c.N, V: copyOf(c.V)})
	}
	slices.SortFunc(t.Boxes, func(a, b api.Content) int { return cmp.Compare(a.N, b.N) })
	return t
}
