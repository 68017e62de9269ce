package heap_test

import (
	"testing"

	"quire/api"
	"quire/heap"
)

// small answers a heap with an old object, a young one that it names, one without fields and a number.
func small(t *testing.T) *heap.Heap {
	t.Helper()
	h := newHeap(t, 40)
	alloc(t, h, 1, 2)
	h.Minor()
	alloc(t, h, 2, 3)
	alloc(t, h, 3, 0)
	num(t, h, 4)
	set(t, h, 0, 0, 1)
	set(t, h, 1, 2, 3)
	return h
}

func isSmall(t *testing.T, h *heap.Heap) {
	t.Helper()
	zero := number(0)
	walks(t, h, []api.Field{ref(0), ref(1), ref(2), number(4)},
		object(1, ref(1), zero), object(2, zero, zero, number(4)), object(3))
	live(t, h, 8)
}

// spoil overwrites a list with its spare room.
func spoil(list []api.Field) {
	list = list[:cap(list)]
	for i := range list {
		list[i] = api.Field{Ref: true, N: 77}
	}
}

// R4

func TestWalkIsNewMemory(t *testing.T) {
	h := small(t)
	roots, objects := h.Walk()
	again, alike := h.Walk()
	spoil(roots)
	for i := range objects {
		spoil(objects[i].Fields)
		objects[i].Kind = 99
	}
	isSmall(t, h)
	h.Minor()
	isSmall(t, h)
	zero := number(0)
	want := []api.Object{object(1, ref(1), zero), object(2, zero, zero, number(4)), object(3)}
	if !sameWalk(again, alike, []api.Field{ref(0), ref(1), ref(2), number(4)}, want) {
		t.Errorf("another answer is changed: %v, %v", again, alike)
	}
}

func TestListsOfAWalkShareNothing(t *testing.T) {
	h := small(t)
	_, was := h.Walk()
	for i := range was {
		roots, objects := h.Walk()
		spoil(objects[i].Fields)
		for j := range was {
			if j != i && !sameWalk(nil, objects[j:j+1], nil, was[j:j+1]) {
				t.Errorf("object %d is changed by way of object %d: %v", j, i, objects[j])
			}
		}
		if roots[3] != number(4) || roots[0] != ref(0) {
			t.Errorf("the roots are changed by way of object %d: %v", i, roots)
		}
	}
	roots, objects := h.Walk()
	spoil(roots)
	if !sameWalk(nil, objects, nil, was) {
		t.Errorf("objects are changed by way of the roots: %v", objects)
	}
}

// P10.8

func TestCopyIsTheSame(t *testing.T) {
	h := small(t)
	c := h.Copy()
	isSmall(t, c)
	isSmall(t, c.Copy())
	is(t, "Alloc beyond the capacity", c.Alloc(0, 32, false), api.ErrFull)
	alloc(t, c, 0, 31)
	isSmall(t, h)
}

// The old field that names a young object is known in the copy, too.
func TestCopyIsCollectedOnItsOwn(t *testing.T) {
	h := small(t)
	slide(t, h, 1, 2)
	c := h.Copy()
	zero := number(0)
	check := func(h *heap.Heap) {
		t.Helper()
		walks(t, h, []api.Field{ref(0), ref(1), number(4)},
			object(1, ref(2), zero), object(3), object(2, zero, zero, number(4)))
	}
	c.Minor()
	check(c)
	check(h)
	h.Minor()
	check(h)
	h.Major()
	check(h)
	check(c)
	c.Major()
	check(c)
}

func TestCopiesGoTheirOwnWays(t *testing.T) {
	ways := []func(h *heap.Heap){
		func(h *heap.Heap) { set(t, h, 0, 0, 3) },
		func(h *heap.Heap) { set(t, h, 1, 0, 1) },
		func(h *heap.Heap) { alloc(t, h, 7, 7) },
		func(h *heap.Heap) { num(t, h, 7) },
		func(h *heap.Heap) { slide(t, h, 2, 1); num(t, h, 7) },
		func(h *heap.Heap) { slide(t, h, 4, 0); h.Minor() },
		func(h *heap.Heap) { slide(t, h, 4, 0); h.Major(); alloc(t, h, 7, 39) },
	}
	for _, way := range ways {
		for _, later := range ways {
			h := small(t)
			c := h.Copy()
			way(h)
			isSmall(t, c)
			h = small(t)
			c = h.Copy()
			way(c)
			isSmall(t, h)
			later(h)
			d := small(t)
			way(d)
			r, o := d.Walk()
			walks(t, c, r, o...)
		}
	}
}
