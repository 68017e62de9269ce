package store

import (
	"slices"

	"quire/api"
	"quire/heap"
	"quire/value"
)

// finder finds boxes by their numbers, and makes roots of them.
type finder struct {
	heap   *heap.Heap
	wanted []int       // the numbers of the boxes that are to be found
	places map[int]int // by a box's number, a root that names it
	boxes  map[int]int // by a box's number, which object of a walk it is
	ways   []way       // how each object of a walk is reached
	roots  map[int]int // by an object of a walk, a root that names it
}

// way tells where an object is first named: by a field of another object, or, where that is onStack, by a root.
type way struct{ by, at int }

const onStack = -1

func newFinder(h *heap.Heap) *finder {
	return &finder{heap: h, places: map[int]int{}, boxes: map[int]int{}, roots: map[int]int{}}
}

// find answers a finder of the boxes that values of a list name; ErrForm, if a value is not sound or the stack does not reach such a box.
func (m *Mem) find(list []api.Value) (*finder, api.Errno) {
	f := newFinder(m.heap)
	for _, v := range list {
		numbers, e := value.Boxes(v)
		if e != api.OK {
			return nil, e
		}
		f.wanted = slices.AppendSeq(f.wanted, numbers)
	}
	if f.findOnStack() || f.findAnywhere() {
		return f, api.OK
	}
	return nil, api.ErrForm
}

// findOnStack answers whether all boxes that are wanted are values of the stack themselves. Most are, and a walk through all that is reached is spared then.
func (f *finder) findOnStack() bool {
	if len(f.wanted) == 0 {
		return true
	}
	for i := range f.heap.Roots() {
		if n, ok := (reader{f.heap}).box(i); ok {
			f.places[n] = i
		}
	}
	return areIn(f.places, f.wanted)
}

// findAnywhere answers whether all boxes that are wanted are reached.
func (f *finder) findAnywhere() bool {
	f.walk()
	return areIn(f.boxes, f.wanted)
}

func areIn(found map[int]int, numbers []int) bool {
	for _, n := range numbers {
		if _, ok := found[n]; !ok {
			return false
		}
	}
	return true
}

// walk goes through all that is reached. The objects are numbered in the order in which they are first named, so one is named first where it has the number of the next way.
func (f *finder) walk() {
	roots, objects := f.heap.Walk()
	name := func(by int, words []api.Field) {
		for at, w := range words {
			if w.Ref && w.N == uint64(len(f.ways)) {
				f.ways = append(f.ways, way{by, at})
			}
		}
	}
	name(onStack, roots)
	for i, o := range objects {
		name(i, o.Fields)
		if o.Kind == kindBox {
			f.boxes[int(o.Fields[boxNumber].N)] = i
		}
	}
}

// open answers, by the number of each box that is wanted, a root that names it. Where no value of the stack is the box itself, that is a new root, on top.
func (f *finder) open() map[int]int {
	for _, n := range f.wanted {
		if _, ok := f.places[n]; !ok {
			f.places[n] = f.root(f.boxes[n])
		}
	}
	return f.places
}

// root answers a root that names an object of the walk. Each object on the way keeps the root that it was given, so that none is gone to twice.
func (f *finder) root(object int) int {
	if at, ok := f.roots[object]; ok {
		return at
	}
	w := f.ways[object]
	at := w.at
	if w.by != onStack {
		f.heap.Get(f.root(w.by), w.at)
		at = f.heap.Roots() - 1
	}
	f.roots[object] = at
	return at
}
