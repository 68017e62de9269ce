package store

import (
	"maps"
	"slices"

	"quire/api"
)

// none answers whether there is no memory. One that neither New nor Of made has no heap, and is taken for a nil one.
func (m *Mem) none() bool { return m == nil || m.heap == nil }

// top answers the root of the top value.
func (m *Mem) top() int { return m.heap.Roots() - 1 }

// boxOnTop asks for so many values, the top one of which is a box.
func (m *Mem) boxOnTop(values int) api.Errno {
	if m.none() {
		return api.ErrArg
	}
	if m.Depth() < values {
		return api.ErrUnder
	}
	if _, ok := (reader{m.heap}).box(m.top()); !ok {
		return api.ErrKind
	}
	return api.OK
}

// exchange puts the values of list, whose boxes were found, in the place of the k top ones. Those go last, as the boxes may be reached by them alone.
func (m *Mem) exchange(k int, list []api.Value, f *finder) api.Errno {
	depth := m.Depth()
	places := f.open()
	opened := m.heap.Roots() - depth
	l := layer{heap: m.heap, box: func(n int) api.Errno { return m.heap.Dup(places[n]) }}
	if e := l.values(list); e != api.OK {
		m.heap.Slide(m.heap.Roots()-depth, 0)
		return e
	}
	return m.heap.Slide(k+opened, len(list))
}

// fill lays a sound state into a memory without values. The boxes come first, and empty, as any value may name any of them.
func (m *Mem) fill(s api.State) api.Errno {
	places := placesOf(s.Boxes)
	l := layer{heap: m.heap, box: func(n int) api.Errno { return m.heap.Dup(places[n]) }}
	nothing := func() api.Errno { return m.heap.Num(0) }
	for _, c := range s.Boxes {
		if e := l.newBox(c.N, nothing); e != api.OK {
			return e
		}
	}
	for i, c := range s.Boxes {
		if e := l.value(c.V); e != api.OK {
			return e
		}
		m.heap.Set(i, boxHeld, m.top())
		m.heap.Slide(1, 0)
	}
	if e := l.values(s.Stack); e != api.OK {
		return e
	}
	m.next = s.Next
	return m.heap.Slide(len(s.Boxes), len(s.Stack))
}

// values answers the values, from the bottom on.
func (m *Mem) values() []api.Value {
	list := make([]api.Value, m.Depth())
	for i := range list {
		list[i] = reader{m.heap}.value(i)
	}
	return list
}

// contents answers the boxes that the stack reaches, with what they hold.
func (m *Mem) contents() []api.Content {
	depth := m.Depth()
	f := newFinder(m.heap)
	f.walk()
	f.wanted = slices.Sorted(maps.Keys(f.boxes))
	places := f.open()
	list := make([]api.Content, len(f.wanted))
	r := reader{m.heap}
	for i, n := range f.wanted {
		list[i] = api.Content{N: n, V: field(r, places[n], boxHeld, r.value)}
	}
	m.heap.Slide(m.heap.Roots()-depth, 0)
	return list
}
