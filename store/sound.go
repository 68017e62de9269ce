package store

import (
	"quire/api"
	"quire/value"
)

// sound answers whether a state is sound.
func sound(s api.State) bool {
	return len(s.Stack) <= api.MaxStack && 1 <= s.Next && s.Next <= api.MaxBoxes && rising(s) && reaches(s)
}

// rising answers whether the boxes have rising numbers from 1 up to the next.
func rising(s api.State) bool {
	last := 0
	for _, c := range s.Boxes {
		if c.N <= last || c.N >= s.Next {
			return false
		}
		last = c.N
	}
	return true
}

// reaches answers whether the values are sound, and the boxes that the stack reaches are those of the state.
func reaches(s api.State) bool {
	places := placesOf(s.Boxes)
	met := make([]bool, len(s.Boxes))
	var order []int
	name := func(v api.Value) bool {
		numbers, e := value.Boxes(v)
		for n := range numbers {
			at, ok := places[n]
			if !ok {
				return false
			}
			if !met[at] {
				met[at] = true
				order = append(order, at)
			}
		}
		return e == api.OK
	}
	for _, v := range s.Stack {
		if !name(v) {
			return false
		}
	}
	for i := 0; i < len(order); i++ {
		if !name(s.Boxes[order[i]].V) {
			return false
		}
	}
	return len(order) == len(s.Boxes)
}

// placesOf answers, by a box's number, where it stands in the list.
func placesOf(boxes []api.Content) map[int]int {
	places := map[int]int{}
	for i, c := range boxes {
		places[c.N] = i
	}
	return places
}
