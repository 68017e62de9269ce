package heap

import (
	"slices"

	"quire/api"
)

// Live answers how many words the objects take that the roots reach.
func (h *Heap) Live() int {
	if h == nil {
		return 0
	}
	return h.size(h.reached(0, h.roots))
}

// Used answers how many words are taken, also by what is no longer reached.
func (h *Heap) Used() int {
	if h == nil {
		return 0
	}
	return h.used()
}

// Walk answers the roots, and the objects that they reach, which are named by their places instead of their addresses.
func (h *Heap) Walk() ([]api.Field, []api.Object) {
	if h == nil {
		return nil, nil
	}
	live := h.reached(0, h.roots)
	places := map[uint64]uint64{}
	for i, addr := range live {
		places[addr] = uint64(i)
	}
	objects := make([]api.Object, len(live))
	for i, addr := range live {
		o := h.at(addr)
		objects[i] = api.Object{Kind: o.kind(), Raw: o.raw(), Fields: renamed(o.fields(), places)}
	}
	return renamed(h.roots, places), objects
}

// renamed answers words of their own, with what they name named by its place.
func renamed(words []api.Field, places map[uint64]uint64) []api.Field {
	own := slices.Clone(words)
	rename(own, places)
	return own
}
