package heap_test

import (
	"math"
	"testing"

	"quire/api"
	"quire/heap"
)

func is(t *testing.T, what string, got, want api.Errno) {
	t.Helper()
	if got != want {
		t.Fatalf("%s: %d, want %d", what, got, want)
	}
}

func newHeap(t *testing.T, words int) *heap.Heap {
	t.Helper()
	h, e := heap.New(words)
	is(t, "New", e, api.OK)
	return h
}

func alloc(t *testing.T, h *heap.Heap, kind, n int) {
	t.Helper()
	is(t, "Alloc", h.Alloc(kind, n, false), api.OK)
}

func num(t *testing.T, h *heap.Heap, n uint64) {
	t.Helper()
	is(t, "Num", h.Num(n), api.OK)
}

func set(t *testing.T, h *heap.Heap, i, f, j int) {
	t.Helper()
	is(t, "Set", h.Set(i, f, j), api.OK)
}

func slide(t *testing.T, h *heap.Heap, k, m int) {
	t.Helper()
	is(t, "Slide", h.Slide(k, m), api.OK)
}

func live(t *testing.T, h *heap.Heap, want int) {
	t.Helper()
	if h.Live() != want {
		t.Fatalf("Live: %d, want %d", h.Live(), want)
	}
}

func ref(n uint64) api.Field { return api.Field{Ref: true, N: n} }

func number(n uint64) api.Field { return api.Field{N: n} }

func object(kind int, fields ...api.Field) api.Object {
	return api.Object{Kind: kind, Fields: fields}
}

func rawObject(kind int, fields ...api.Field) api.Object {
	return api.Object{Kind: kind, Raw: true, Fields: fields}
}

// walks asks for these roots and objects.
func walks(t *testing.T, h *heap.Heap, roots []api.Field, objects ...api.Object) {
	t.Helper()
	r, o := h.Walk()
	if !sameWalk(r, o, roots, objects) {
		t.Fatalf("Walk: %v, %v, want %v, %v", r, o, roots, objects)
	}
	if h.Roots() != len(roots) {
		t.Fatalf("Roots: %d, want %d", h.Roots(), len(roots))
	}
}

// full answers a heap with as many roots as there may be: an object with a field at 0, numbers above.
func full(t *testing.T) *heap.Heap {
	t.Helper()
	h := newHeap(t, 100)
	alloc(t, h, 9, 1)
	for h.Roots() < api.MaxRoots {
		num(t, h, uint64(h.Roots()))
	}
	return h
}

// P10.1

func TestNew(t *testing.T) {
	for _, words := range []int{1, 2, 8, api.MaxHeap - 1, api.MaxHeap} {
		h := newHeap(t, words)
		walks(t, h, nil)
		live(t, h, 0)
		if h.Used() != 0 {
			t.Errorf("Used of a new heap: %d", h.Used())
		}
	}
	for _, words := range []int{0, -1, api.MaxHeap + 1, math.MaxInt, math.MinInt} {
		if h, e := heap.New(words); h != nil || e != api.ErrArg {
			t.Errorf("New(%d): %v, %d", words, h, e)
		}
	}
}

func TestRoots(t *testing.T) {
	h := newHeap(t, 100)
	for n := range 10 {
		if h.Roots() != 2*n {
			t.Fatalf("Roots: %d, want %d", h.Roots(), 2*n)
		}
		num(t, h, 1)
		alloc(t, h, 0, 1)
	}
	slide(t, h, 3, 2)
	if h.Roots() != 17 {
		t.Fatalf("Roots: %d, want 17", h.Roots())
	}
}

// P10.2

func TestAlloc(t *testing.T) {
	h := newHeap(t, 100)
	is(t, "Alloc", h.Alloc(1, 2, false), api.OK)
	is(t, "Alloc", h.Alloc(255, 0, true), api.OK)
	is(t, "Alloc", h.Alloc(0, 3, true), api.OK)
	walks(t, h, []api.Field{ref(0), ref(1), ref(2)},
		object(1, number(0), number(0)), rawObject(255), rawObject(0, number(0), number(0), number(0)))
	live(t, h, 8)
}

func TestAllocOfEachKind(t *testing.T) {
	h := newHeap(t, 1024)
	for kind := range 256 {
		is(t, "Alloc", h.Alloc(kind, 1, kind%3 == 0), api.OK)
	}
	h.Major()
	for i := range 256 {
		if kind, n, raw, e := h.Info(i); kind != i || n != 1 || raw != (i%3 == 0) || e != api.OK {
			t.Errorf("Info(%d): %d, %d, %t, %d", i, kind, n, raw, e)
		}
	}
}

func TestAllocRefuses(t *testing.T) {
	h := newHeap(t, 10)
	num(t, h, 3)
	for _, kind := range []int{-1, 256, 511, math.MaxInt, math.MinInt} {
		is(t, "Alloc of another kind", h.Alloc(kind, 1, false), api.ErrArg)
		is(t, "Alloc of another kind", h.Alloc(kind, 100, false), api.ErrArg)
	}
	for _, n := range []int{-1, api.MaxFields + 1, math.MaxInt, math.MinInt} {
		is(t, "Alloc of so many fields", h.Alloc(1, n, false), api.ErrArg)
	}
	is(t, "Alloc beyond the capacity", h.Alloc(1, api.MaxFields, false), api.ErrFull)
	walks(t, h, []api.Field{number(3)})
	live(t, h, 0)
}

func TestAllocOfManyFields(t *testing.T) {
	h := newHeap(t, api.MaxFields+1)
	alloc(t, h, 1, api.MaxFields)
	live(t, h, api.MaxFields+1)
	num(t, h, 8)
	set(t, h, 0, api.MaxFields-1, 1)
	set(t, h, 0, 0, 0)
	is(t, "Set", h.Set(0, api.MaxFields, 1), api.ErrRange)
	h.Major()
	is(t, "Get", h.Get(0, api.MaxFields-1), api.OK)
	if n, e := h.Word(2); n != 8 || e != api.OK {
		t.Errorf("Word: %d, %d", n, e)
	}
	is(t, "Alloc in a full heap", h.Alloc(0, 0, false), api.ErrFull)
	h = newHeap(t, api.MaxFields)
	is(t, "Alloc of one word too many", h.Alloc(1, api.MaxFields, false), api.ErrFull)
	alloc(t, h, 1, api.MaxFields-1)
}

// Each capacity takes objects to the last word, and no further.
func TestAllocToTheLastWord(t *testing.T) {
	for capacity := 1; capacity <= 40; capacity++ {
		for n := range capacity + 2 {
			h := newHeap(t, capacity)
			for want := n + 1; want <= capacity; want += n + 1 {
				alloc(t, h, 1, n)
				live(t, h, want)
			}
			is(t, "Alloc of one too many", h.Alloc(1, n, false), api.ErrFull)
			if left := capacity - h.Live(); left > 0 {
				is(t, "Alloc of all that is left", h.Alloc(2, left-1, true), api.OK)
			}
			live(t, h, capacity)
			is(t, "Alloc without room", h.Alloc(0, 0, true), api.ErrFull)
		}
	}
}

func TestNum(t *testing.T) {
	h := newHeap(t, 1)
	numbers := []uint64{0, 1, 5, 1 << 62, 1 << 63, math.MaxUint64}
	var roots []api.Field
	for _, n := range numbers {
		num(t, h, n)
		roots = append(roots, number(n))
	}
	walks(t, h, roots)
	h.Minor()
	h.Major()
	walks(t, h, roots)
	live(t, h, 0)
}

func TestDup(t *testing.T) {
	h := newHeap(t, 20)
	num(t, h, 7)
	alloc(t, h, 1, 1)
	is(t, "Dup", h.Dup(0), api.OK)
	is(t, "Dup", h.Dup(1), api.OK)
	walks(t, h, []api.Field{number(7), ref(0), number(7), ref(0)}, object(1, number(0)))
	live(t, h, 2)
	set(t, h, 3, 0, 0) // seen by the other root
	walks(t, h, []api.Field{number(7), ref(0), number(7), ref(0)}, object(1, number(7)))
	for _, i := range []int{4, -1, math.MaxInt, math.MinInt} {
		is(t, "Dup of no root", h.Dup(i), api.ErrRange)
	}
	is(t, "Dup in an empty heap", newHeap(t, 1).Dup(0), api.ErrRange)
}

func TestAsManyRootsAsThereMayBe(t *testing.T) {
	h := full(t)
	is(t, "Num", h.Num(1), api.ErrLarge)
	is(t, "Dup", h.Dup(0), api.ErrLarge)
	is(t, "Dup of the last", h.Dup(api.MaxRoots-1), api.ErrLarge)
	is(t, "Dup of none", h.Dup(api.MaxRoots), api.ErrRange)
	is(t, "Alloc", h.Alloc(0, 0, false), api.ErrLarge)
	is(t, "Alloc without room", h.Alloc(0, 500, false), api.ErrLarge)
	is(t, "Alloc of another kind", h.Alloc(-1, 0, false), api.ErrArg)
	is(t, "Alloc of too many fields", h.Alloc(0, api.MaxFields+1, false), api.ErrArg)
	is(t, "Get", h.Get(0, 0), api.ErrLarge)
	is(t, "Get of no field", h.Get(0, 1), api.ErrRange)
	is(t, "Get of a number", h.Get(1, 0), api.ErrKind)
	is(t, "Get of no root", h.Get(api.MaxRoots, 0), api.ErrRange)
	if h.Roots() != api.MaxRoots {
		t.Fatalf("Roots: %d", h.Roots())
	}
	live(t, h, 2)
	set(t, h, 0, 0, api.MaxRoots-1) // needs no root
	slide(t, h, 1, 0)
	is(t, "Get with one root left", h.Get(0, 0), api.OK)
	if n, e := h.Word(api.MaxRoots - 1); n != api.MaxRoots-1 || e != api.OK {
		t.Errorf("Word: %d, %d", n, e)
	}
	is(t, "Get", h.Get(0, 0), api.ErrLarge)
	slide(t, h, 1, 0)
	alloc(t, h, 1, 3)
	is(t, "Alloc", h.Alloc(0, 0, false), api.ErrLarge)
	live(t, h, 6)
	h.Minor()
	h.Major()
	live(t, h, 6)
	slide(t, h, api.MaxRoots, 0)
	walks(t, h, nil)
}

// P10.3

func TestSlide(t *testing.T) {
	fresh := func() *heap.Heap {
		h := newHeap(t, 10)
		for n := range 5 {
			num(t, h, uint64(n))
		}
		return h
	}
	for k := range 7 {
		for m := range 7 {
			h := fresh()
			var want []api.Field
			for n := range 5 {
				if n < 5-m-k || n >= 5-m || k+m > 5 {
					want = append(want, number(uint64(n)))
				}
			}
			if k+m > 5 {
				is(t, "Slide of too many", h.Slide(k, m), api.ErrRange)
			} else {
				slide(t, h, k, m)
			}
			walks(t, h, want)
		}
	}
}

func TestSlideRefuses(t *testing.T) {
	h := newHeap(t, 10)
	num(t, h, 1)
	num(t, h, 2)
	is(t, "Slide", h.Slide(-1, 0), api.ErrArg)
	is(t, "Slide", h.Slide(0, -1), api.ErrArg)
	is(t, "Slide", h.Slide(-1, 9), api.ErrArg)
	is(t, "Slide", h.Slide(9, -1), api.ErrArg)
	is(t, "Slide", h.Slide(2, -1), api.ErrArg)
	is(t, "Slide", h.Slide(math.MinInt, math.MinInt), api.ErrArg)
	is(t, "Slide", h.Slide(math.MinInt, math.MaxInt), api.ErrArg)
	is(t, "Slide", h.Slide(3, 0), api.ErrRange)
	is(t, "Slide", h.Slide(0, 3), api.ErrRange)
	is(t, "Slide", h.Slide(1, 2), api.ErrRange)
	is(t, "Slide", h.Slide(math.MaxInt, math.MaxInt), api.ErrRange) // together -2
	is(t, "Slide", h.Slide(math.MaxInt, 1), api.ErrRange)
	is(t, "Slide", h.Slide(1, math.MaxInt), api.ErrRange)
	is(t, "Slide", h.Slide(math.MaxInt, 0), api.ErrRange)
	walks(t, h, []api.Field{number(1), number(2)})
	is(t, "Slide in an empty heap", newHeap(t, 1).Slide(0, 0), api.OK)
	is(t, "Slide in an empty heap", newHeap(t, 1).Slide(1, 0), api.ErrRange)
}

func TestSlideLetsObjectsGo(t *testing.T) {
	h := newHeap(t, 10)
	alloc(t, h, 1, 1)
	alloc(t, h, 2, 2)
	alloc(t, h, 3, 3)
	live(t, h, 9)
	slide(t, h, 1, 1)
	walks(t, h, []api.Field{ref(0), ref(1)}, object(1, number(0)), object(3, number(0), number(0), number(0)))
	live(t, h, 6)
	slide(t, h, 1, 1)
	live(t, h, 4)
	slide(t, h, 1, 0)
	live(t, h, 0)
	alloc(t, h, 4, 9)
}

// P10.4

func TestGetAndSet(t *testing.T) {
	h := newHeap(t, 20)
	alloc(t, h, 1, 3)
	num(t, h, math.MaxUint64)
	alloc(t, h, 2, 1)
	set(t, h, 0, 0, 1)
	set(t, h, 0, 1, 2)
	set(t, h, 0, 2, 0) // itself
	set(t, h, 2, 0, 0)
	walks(t, h, []api.Field{ref(0), number(math.MaxUint64), ref(1)},
		object(1, number(math.MaxUint64), ref(1), ref(0)), object(2, ref(0)))
	for f := range 3 {
		is(t, "Get", h.Get(0, f), api.OK)
	}
	walks(t, h, []api.Field{ref(0), number(math.MaxUint64), ref(1), number(math.MaxUint64), ref(1), ref(0)},
		object(1, number(math.MaxUint64), ref(1), ref(0)), object(2, ref(0)))
	set(t, h, 4, 0, 1) // the object, not the root
	set(t, h, 0, 1, 3)
	walks(t, h, []api.Field{ref(0), number(math.MaxUint64), ref(1), number(math.MaxUint64), ref(1), ref(0)},
		object(1, number(math.MaxUint64), number(math.MaxUint64), ref(0)), object(2, number(math.MaxUint64)))
}

func TestRawObjectsHoldNumbersAlone(t *testing.T) {
	h := newHeap(t, 20)
	is(t, "Alloc", h.Alloc(1, 2, true), api.OK)
	alloc(t, h, 2, 2)
	num(t, h, 6)
	set(t, h, 0, 1, 2)
	is(t, "Set", h.Set(0, 0, 1), api.ErrKind)
	is(t, "Set to itself", h.Set(0, 0, 0), api.ErrKind)
	is(t, "Set of no field", h.Set(0, 2, 1), api.ErrRange)
	is(t, "Set of no field", h.Set(0, -1, 2), api.ErrRange)
	set(t, h, 1, 0, 0) // one that is not raw may name it
	walks(t, h, []api.Field{ref(0), ref(1), number(6)},
		rawObject(1, number(0), number(6)), object(2, ref(0), number(0)))
	h.Major()
	is(t, "Set behind a collection", h.Set(0, 0, 1), api.ErrKind)
	is(t, "Get", h.Get(0, 1), api.OK)
	if n, e := h.Word(3); n != 6 || e != api.OK {
		t.Errorf("Word: %d, %d", n, e)
	}
}

func TestGetRefuses(t *testing.T) {
	h := newHeap(t, 20)
	alloc(t, h, 1, 2)
	num(t, h, 4)
	alloc(t, h, 2, 0)
	for _, i := range []int{-1, 3, math.MaxInt, math.MinInt} {
		is(t, "Get of no root", h.Get(i, 0), api.ErrRange)
		is(t, "Get of no root", h.Get(i, -1), api.ErrRange)
	}
	for _, f := range []int{0, 1, -1, 5, math.MaxInt, math.MinInt} {
		is(t, "Get of a number", h.Get(1, f), api.ErrKind)
		is(t, "Get of no field", h.Get(2, f), api.ErrRange)
	}
	for _, f := range []int{2, -1, math.MaxInt, math.MinInt} {
		is(t, "Get of no field", h.Get(0, f), api.ErrRange)
	}
	walks(t, h, []api.Field{ref(0), number(4), ref(1)}, object(1, number(0), number(0)), object(2))
}

func TestSetRefuses(t *testing.T) {
	h := newHeap(t, 20)
	alloc(t, h, 1, 2)
	num(t, h, 4)
	alloc(t, h, 2, 0)
	for _, none := range []int{-1, 3, math.MaxInt, math.MinInt} {
		is(t, "Set of no root", h.Set(none, 0, 0), api.ErrRange)
		is(t, "Set of no root", h.Set(none, 0, none), api.ErrRange)
		is(t, "Set to no root", h.Set(0, 0, none), api.ErrRange)
		is(t, "Set of a number to no root", h.Set(1, 0, none), api.ErrRange)
		is(t, "Set of a number", h.Set(1, none, 0), api.ErrKind)
		is(t, "Set of no field", h.Set(0, none, 1), api.ErrRange)
		is(t, "Set of no field", h.Set(2, none, 1), api.ErrRange)
	}
	is(t, "Set of a number", h.Set(1, 0, 1), api.ErrKind)
	is(t, "Set of no field", h.Set(0, 2, 1), api.ErrRange)
	is(t, "Set of no field", h.Set(2, 0, 0), api.ErrRange)
	walks(t, h, []api.Field{ref(0), number(4), ref(1)}, object(1, number(0), number(0)), object(2))
}

// P10.5

func TestInfo(t *testing.T) {
	h := newHeap(t, 30)
	is(t, "Alloc", h.Alloc(200, 7, true), api.OK)
	is(t, "Alloc", h.Alloc(0, 0, false), api.OK)
	num(t, h, 1)
	asks := func(i, kind, n int, raw bool, e api.Errno) {
		t.Helper()
		k, m, r, f := h.Info(i)
		if k != kind || m != n || r != raw || f != e {
			t.Errorf("Info(%d): %d, %d, %t, %d, want %d, %d, %t, %d", i, k, m, r, f, kind, n, raw, e)
		}
	}
	for range 3 {
		asks(0, 200, 7, true, api.OK)
		asks(1, 0, 0, false, api.OK)
		asks(2, 0, 0, false, api.ErrKind)
		for _, i := range []int{-1, 3, math.MaxInt, math.MinInt} {
			asks(i, 0, 0, false, api.ErrRange)
		}
		h.Major()
	}
}

func TestWord(t *testing.T) {
	h := newHeap(t, 30)
	num(t, h, 17)
	alloc(t, h, 1, 1)
	asks := func(i int, n uint64, e api.Errno) {
		t.Helper()
		if m, f := h.Word(i); m != n || f != e {
			t.Errorf("Word(%d): %d, %d, want %d, %d", i, m, f, n, e)
		}
	}
	asks(0, 17, api.OK)
	asks(1, 0, api.ErrKind)
	for _, i := range []int{-1, 2, math.MaxInt, math.MinInt} {
		asks(i, 0, api.ErrRange)
	}
}

// Objects that are alike are not the same, and a number is never an object, whatever stands in for the object.
func TestSame(t *testing.T) {
	h := newHeap(t, 30)
	alloc(t, h, 1, 1)
	alloc(t, h, 1, 1)
	set(t, h, 1, 0, 0)
	is(t, "Get", h.Get(1, 0), api.OK) // 2: as 0
	num(t, h, 3)                      // 3
	num(t, h, 3)                      // 4
	num(t, h, 4)                      // 5
	group := []int{0, 1, 0, 2, 2, 3}
	for range 3 {
		for i := range group {
			for j := range group {
				if s, e := h.Same(i, j); s != (group[i] == group[j]) || e != api.OK {
					t.Errorf("Same(%d, %d): %t, %d", i, j, s, e)
				}
			}
		}
		h.Minor()
		h.Major()
	}
	for _, i := range []int{-1, 6, math.MaxInt, math.MinInt} {
		for _, j := range []int{0, 3, i} {
			if s, e := h.Same(i, j); s || e != api.ErrRange {
				t.Errorf("Same(%d, %d): %t, %d", i, j, s, e)
			}
			if s, e := h.Same(j, i); s || e != api.ErrRange {
				t.Errorf("Same(%d, %d): %t, %d", j, i, s, e)
			}
		}
	}
}

func TestANumberIsNoObject(t *testing.T) {
	h := newHeap(t, 100)
	for range 5 {
		alloc(t, h, 1, 1)
	}
	h.Minor()
	alloc(t, h, 1, 1)
	for n := range uint64(2 * 100) {
		num(t, h, n)
		for i := range 6 {
			if s, e := h.Same(i, 6); s || e != api.OK {
				t.Fatalf("object %d is the number %d: %d", i, n, e)
			}
		}
		slide(t, h, 1, 0)
	}
}

// P10.7

func TestWalkNumbersByFirstNaming(t *testing.T) {
	h := newHeap(t, 100)
	for kind := range 6 {
		alloc(t, h, kind, 2)
	}
	set(t, h, 0, 0, 1)
	set(t, h, 0, 1, 2)
	set(t, h, 5, 0, 0)
	set(t, h, 5, 1, 3)
	set(t, h, 1, 0, 4)
	set(t, h, 3, 1, 5)
	num(t, h, 1)
	// The roots name 5 and 2 alone; so 5 is 0, 2 is 1, then come 0 and 3 by the fields of 5, then 1 by those of 0, then 4.
	is(t, "Dup", h.Dup(5), api.OK)
	is(t, "Dup", h.Dup(2), api.OK)
	slide(t, h, 6, 3)
	zero := number(0)
	want := []api.Object{
		object(5, ref(2), ref(3)),
		object(2, zero, zero),
		object(0, ref(4), ref(1)),
		object(3, zero, ref(0)),
		object(1, ref(5), zero),
		object(4, zero, zero),
	}
	walks(t, h, []api.Field{number(1), ref(0), ref(1)}, want...)
	h.Minor()
	walks(t, h, []api.Field{number(1), ref(0), ref(1)}, want...)
	h.Major()
	walks(t, h, []api.Field{number(1), ref(0), ref(1)}, want...)
	live(t, h, 18)
}

// A chain as long as can be is walked to its end.
func TestWalkOfALongChain(t *testing.T) {
	h := newHeap(t, api.MaxHeap)
	num(t, h, 5)
	for range api.MaxHeap / 2 {
		alloc(t, h, 1, 1)
		set(t, h, 1, 0, 0)
		slide(t, h, 1, 1)
	}
	live(t, h, api.MaxHeap)
	is(t, "Alloc", h.Alloc(1, 0, false), api.ErrFull)
	h.Major()
	roots, objects := h.Walk()
	if len(roots) != 1 || roots[0] != ref(0) || len(objects) != api.MaxHeap/2 {
		t.Fatalf("%v, %d objects", roots, len(objects))
	}
	for i, o := range objects {
		want := ref(uint64(i) + 1)
		if i == len(objects)-1 {
			want = number(5)
		}
		if o.Fields[0] != want {
			t.Fatalf("object %d: %v", i, o)
		}
	}
}

// P10.8

func TestNil(t *testing.T) {
	var h *heap.Heap
	is(t, "Alloc", h.Alloc(0, 0, false), api.ErrArg)
	is(t, "Num", h.Num(0), api.ErrArg)
	is(t, "Dup", h.Dup(0), api.ErrArg)
	is(t, "Slide", h.Slide(0, 0), api.ErrArg)
	is(t, "Slide", h.Slide(1, 1), api.ErrArg)
	is(t, "Get", h.Get(0, 0), api.ErrArg)
	is(t, "Set", h.Set(0, 0, 0), api.ErrArg)
	if kind, n, raw, e := h.Info(0); kind != 0 || n != 0 || raw || e != api.ErrArg {
		t.Errorf("Info: %d, %d, %t, %d", kind, n, raw, e)
	}
	if n, e := h.Word(0); n != 0 || e != api.ErrArg {
		t.Errorf("Word: %d, %d", n, e)
	}
	if s, e := h.Same(0, 0); s || e != api.ErrArg {
		t.Errorf("Same: %t, %d", s, e)
	}
	h.Minor()
	h.Major()
	if h.Roots() != 0 || h.Live() != 0 || h.Used() != 0 || h.Copy() != nil {
		t.Errorf("%d roots, %d live, %d used, Copy %v", h.Roots(), h.Live(), h.Used(), h.Copy())
	}
	if roots, objects := h.Walk(); len(roots) != 0 || len(objects) != 0 {
		t.Errorf("Walk: %v, %v", roots, objects)
	}
}

// One that New did not make has room for no object.
func TestTheZeroValue(t *testing.T) {
	h := &heap.Heap{}
	is(t, "Alloc", h.Alloc(0, 0, false), api.ErrFull)
	num(t, h, 2)
	is(t, "Set", h.Set(0, 0, 0), api.ErrKind)
	h.Minor()
	h.Major()
	walks(t, h.Copy(), []api.Field{number(2)})
	slide(t, h, 1, 0)
	walks(t, h, nil)
}

// Example 1

func TestExample(t *testing.T) {
	h := newHeap(t, 8)
	alloc(t, h, 1, 2)
	num(t, h, 5)
	set(t, h, 0, 1, 1)
	slide(t, h, 1, 0)
	walks(t, h, []api.Field{ref(0)}, object(1, number(0), number(5)))
	live(t, h, 3)
	alloc(t, h, 2, 4)
	live(t, h, 8)
	is(t, "Alloc", h.Alloc(0, 0, true), api.ErrFull)
	slide(t, h, 1, 0)
	is(t, "Alloc", h.Alloc(3, 3, false), api.OK)
}
