package heap

import (
	"quire/api"
)

// spaces are where the objects lie. An address counts words: those of the old space first, then those of the young one. So young addresses stand for as long as the old space does not grow, which it does only when all of the young one is moved.
type spaces struct {
	old, young []api.Field
	crossing   map[uint64]struct{} // the addresses of the old fields that were made to name young objects: where the young are collected, no other old field counts
}

func newSpaces() spaces {
	return spaces{crossing: map[uint64]struct{}{}}
}

// youngFrom answers the address at which the young space begins.
func (s *spaces) youngFrom() uint64 { return uint64(len(s.old)) }

// used answers how many words are taken, also by what is no longer reached.
func (s *spaces) used() int { return len(s.old) + len(s.young) }

// at answers the object at an address.
func (s *spaces) at(addr uint64) object {
	words := s.old
	if from := s.youngFrom(); addr >= from {
		words, addr = s.young, addr-from
	}
	return object(words[addr:][:sizeOf(words[addr])])
}

// lay puts a new object, all fields of which are the number 0, into the young space, and answers its address.
func (s *spaces) lay(kind, n int, raw bool) uint64 {
	addr := uint64(s.used())
	s.young = append(s.young, head(kind, n, raw))
	s.young = append(s.young, make([]api.Field, n)...)
	return addr
}

// write makes field f of the object at an address as w.
func (s *spaces) write(addr uint64, f int, w api.Field) {
	s.at(addr).fields()[f] = w
	from := s.youngFrom()
	if addr < from && w.Ref && w.N >= from {
		s.crossing[addr+1+uint64(f)] = struct{}{}
	}
}

// reached answers the addresses of the objects, from the address lowest on, that the words of the lists name, and of those that are named by them, in the order in which they are first named.
func (s *spaces) reached(lowest uint64, lists ...[]api.Field) []uint64 {
	var order []uint64
	met := make([]bool, uint64(s.used())-lowest)
	name := func(words []api.Field) {
		for _, w := range words {
			if w.Ref && w.N >= lowest && !met[w.N-lowest] {
				met[w.N-lowest] = true
				order = append(order, w.N)
			}
		}
	}
	for _, words := range lists {
		name(words)
	}
	for i := 0; i < len(order); i++ {
		name(s.at(order[i]))
	}
	return order
}

// size answers how many words the objects at these addresses take.
func (s *spaces) size(addrs []uint64) int {
	words := 0
	for _, addr := range addrs {
		words += len(s.at(addr))
	}
	return words
}
