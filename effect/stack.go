package effect

import (
	"slices"

	"quire/api"
)

// entry is what is known of a value on the stack.
type entry struct {
	known bool       // it is a quotation that the items have pushed
	items []api.Item // what it holds then
}

func entryOf(v api.Value) entry {
	quot, ok := v.(api.Quot)
	return entry{known: ok, items: quot.Items}
}

// stack is what items have left so far.
type stack struct {
	list  []entry
	taken int // values that were taken from below the list
}

func (s *stack) push(x entry) {
	s.list = append(s.list, x)
}

func (s *stack) pop() entry {
	last := len(s.list) - 1
	if last < 0 {
		s.taken++
		return entry{}
	}
	x := s.list[last]
	s.list = s.list[:last]
	return x
}

// quotation takes one, which has to be known.
func (s *stack) quotation() []api.Item {
	x := s.pop()
	mustFit(x.known)
	return x.items
}

// apply takes and leaves as many as an effect says. Nothing is known of what is left.
func (s *stack) apply(x api.Effect) {
	for range x.In {
		s.pop()
	}
	for range x.Out {
		s.push(entry{})
	}
}

// move takes so many entries and leaves those at the given places among them, from the lowest on.
func (s *stack) move(n int, places []int) {
	var moving []entry
	for range n {
		moving = append(moving, s.pop())
	}
	slices.Reverse(moving)
	for _, place := range places {
		s.push(moving[place])
	}
}

// moved answers for a word that moves values what it leaves: the places that these had, from the lowest on.
func moved(name string) ([]int, bool) {
	switch name {
	case "dup":
		return []int{0, 0}, true
	case "drop":
		return nil, true
	case "swap":
		return []int{1, 0}, true
	case "over":
		return []int{0, 1, 0}, true
	case "rot":
		return []int{1, 2, 0}, true
	case "nip":
		return []int{1}, true
	case "tuck":
		return []int{1, 0, 1}, true
	}
	return nil, false
}
