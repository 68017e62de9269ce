package heap

import (
	"maps"
	"slices"

	"quire/api"
)

// youngPart is the part of the capacity that young objects may take until they are collected.
const youngPart = 4

// makeRoom collects what it must for an object of so many words, and answers whether it has room. Each collection is reckoned ahead of being done, as an object that is refused changes nothing.
func (h *Heap) makeRoom(size int) bool {
	room := h.capacity - size
	switch {
	case h.used() <= room && len(h.young)+size <= h.capacity/youngPart:
		return true
	case len(h.old)+h.size(h.youngReached()) <= room:
		h.Minor()
		return true
	case h.Live() <= room:
		h.Major()
		return true
	}
	return false
}

// Minor copies the young objects that are reached to the end of the old space. What only old objects name counts as reached, whether or not these are.
func (h *Heap) Minor() {
	if h == nil {
		return
	}
	old := h.old
	moved := map[uint64]uint64{}
	for _, addr := range h.youngReached() {
		moved[addr] = uint64(len(old))
		old = append(old, h.at(addr)...)
	}
	copied := old[len(h.old):]
	h.old, h.young = old, h.young[:0]
	rename(h.roots, moved)
	rename(copied, moved)
	for field := range h.crossing {
		rename(h.old[field:][:1], moved)
	}
	clear(h.crossing)
}

// youngReached answers the addresses of the young objects that the roots or old fields reach.
func (h *Heap) youngReached() []uint64 {
	var fields []api.Field
	for _, field := range slices.Sorted(maps.Keys(h.crossing)) {
		fields = append(fields, h.old[field])
	}
	return h.reached(h.youngFrom(), h.roots, fields)
}

// Major makes all objects old, and pushes those that are reached together.
func (h *Heap) Major() {
	if h == nil {
		return
	}
	h.Minor()
	live := h.reached(0, h.roots)
	slices.Sort(live) // the lowest first, so that none is pushed onto another that has yet to move
	moved := map[uint64]uint64{}
	end := 0
	for _, addr := range live {
		moved[addr] = uint64(end)
		end += copy(h.old[end:], h.at(addr))
	}
	h.old = h.old[:end]
	rename(h.roots, moved)
	rename(h.old, moved)
}

// rename makes words that name what was moved name it where it is now.
func rename(words []api.Field, moved map[uint64]uint64) {
	for i, w := range words {
		if !w.Ref {
			continue
		}
		if to, ok := moved[w.N]; ok {
			words[i].N = to
		}
	}
}
