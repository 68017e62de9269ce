package heap_test

import (
	"testing"

	"quire/api"
	"quire/heap"
)

func used(t *testing.T, h *heap.Heap, want int) {
	t.Helper()
	if h.Used() != want {
		t.Fatalf("Used: %d, want %d", h.Used(), want)
	}
}

// P10.6

func TestMajorLeavesWhatIsLive(t *testing.T) {
	h := newHeap(t, 100)
	for kind := range 10 {
		alloc(t, h, kind, 3)
	}
	slide(t, h, 2, 6)
	slide(t, h, 3, 1)
	live(t, h, 20)
	h.Major()
	used(t, h, 20)
	zero := number(0)
	want := []api.Object{}
	for _, kind := range []int{0, 1, 4, 5, 9} {
		want = append(want, object(kind, zero, zero, zero))
	}
	walks(t, h, []api.Field{ref(0), ref(1), ref(2), ref(3), ref(4)}, want...)
	slide(t, h, 5, 0)
	live(t, h, 0)
	h.Major()
	used(t, h, 0)
}

// A circle that no root reaches any more goes, whether it is young, old or both.
func TestCirclesGo(t *testing.T) {
	for between := range 4 {
		h := newHeap(t, 100)
		alloc(t, h, 1, 1)
		if between&1 != 0 {
			h.Minor()
		}
		alloc(t, h, 2, 1)
		set(t, h, 0, 0, 1)
		set(t, h, 1, 0, 0)
		slide(t, h, 1, 0)
		walks(t, h, []api.Field{ref(0)}, object(1, ref(1)), object(2, ref(0)))
		if between&2 != 0 {
			h.Minor()
			walks(t, h, []api.Field{ref(0)}, object(1, ref(1)), object(2, ref(0)))
		}
		slide(t, h, 1, 0)
		live(t, h, 0)
		h.Major()
		used(t, h, 0)
	}
}

// What was just laid is young in this heap.
func TestMinorLetsYoungObjectsGo(t *testing.T) {
	h := newHeap(t, 100)
	alloc(t, h, 1, 4)
	alloc(t, h, 2, 5)
	slide(t, h, 1, 1)
	h.Minor()
	used(t, h, 6)
	walks(t, h, []api.Field{ref(0)}, object(2, number(0), number(0), number(0), number(0), number(0)))
	alloc(t, h, 3, 1)
	slide(t, h, 2, 0)
	h.Minor()
	used(t, h, 6) // the old one is still there
	h.Major()
	used(t, h, 0)
}

// Young objects that old fields alone name are kept, and follow what these fields are made.
func TestMinorKeepsWhatOldFieldsName(t *testing.T) {
	h := newHeap(t, 100)
	alloc(t, h, 1, 3)
	h.Minor()
	for kind := 2; kind < 5; kind++ {
		alloc(t, h, kind, 1)
		set(t, h, 0, kind-2, 1)
		slide(t, h, 1, 0)
	}
	num(t, h, 9)
	set(t, h, 0, 1, 1) // 3 is named no more
	slide(t, h, 1, 0)
	h.Minor()
	used(t, h, 8)
	zero := number(0)
	walks(t, h, []api.Field{ref(0)}, object(1, ref(1), number(9), ref(2)), object(2, zero), object(4, zero))
	h.Major()
	used(t, h, 8)
	walks(t, h, []api.Field{ref(0)}, object(1, ref(1), number(9), ref(2)), object(2, zero), object(4, zero))
}

// A field that is made to name an old object again is not taken for one that names a young one.
func TestMinorBehindFieldsSetAgain(t *testing.T) {
	h := newHeap(t, 100)
	alloc(t, h, 1, 1)
	alloc(t, h, 2, 1)
	h.Minor()
	alloc(t, h, 3, 1)
	set(t, h, 0, 0, 2)
	set(t, h, 0, 0, 1)
	slide(t, h, 1, 0)
	h.Minor()
	used(t, h, 4)
	walks(t, h, []api.Field{ref(0), ref(1)}, object(1, ref(1)), object(2, number(0)))
}

// Numbers are left as they are, whatever object stands at an address like them.
func TestCollectionsLeaveNumbers(t *testing.T) {
	h := newHeap(t, 400)
	alloc(t, h, 0, 0) // goes, so that all others move
	for kind := 1; kind <= 60; kind++ {
		is(t, "Alloc", h.Alloc(kind, 1, kind%2 == 0), api.OK)
		num(t, h, uint64(kind*2))
		set(t, h, h.Roots()-2, 0, h.Roots()-1)
	}
	slide(t, h, 1, h.Roots()-1)
	check := func() {
		t.Helper()
		for i := range 60 {
			want := uint64(i+1) * 2
			if n, e := h.Word(2*i + 1); n != want || e != api.OK {
				t.Fatalf("root %d: %d, %d", 2*i+1, n, e)
			}
			is(t, "Get", h.Get(2*i, 0), api.OK)
			if n, e := h.Word(h.Roots() - 1); n != want || e != api.OK {
				t.Fatalf("field of root %d: %d, %d", 2*i, n, e)
			}
			slide(t, h, 1, 0)
		}
	}
	check()
	h.Minor()
	check()
	h.Major()
	used(t, h, 120)
	check()
}

// New objects have fields 0, though others lay there before.
func TestRoomIsCleared(t *testing.T) {
	h := newHeap(t, 40)
	for range 50 {
		alloc(t, h, 1, 9)
		for f := range 9 {
			is(t, "Get", h.Get(0, f), api.OK)
			if n, e := h.Word(1); n != 0 || e != api.OK {
				t.Fatalf("field %d of a new object: %d, %d", f, n, e)
			}
			set(t, h, 0, f, 0)
			slide(t, h, 1, 0)
		}
		slide(t, h, 1, 0)
	}
}

// P8: whatever is let go can be had again, word for word.
func TestAllThatIsLetGoIsRoom(t *testing.T) {
	for n := range 12 {
		h := newHeap(t, 60)
		for range 100 {
			for h.Live()+n+1 <= 60 {
				alloc(t, h, 1, n)
			}
			is(t, "Alloc", h.Alloc(1, n, false), api.ErrFull)
			slide(t, h, 2, 1) // two that are not the newest
			left := 60 - h.Live()
			is(t, "Alloc of all that is left and one", h.Alloc(1, left, true), api.ErrFull)
			is(t, "Alloc of all that is left", h.Alloc(1, left-1, true), api.OK)
			slide(t, h, 1, 0)
		}
	}
}

// An Alloc that is refused has changed nothing, not even the room that is taken.
func TestARefusalCollectsNothing(t *testing.T) {
	h := newHeap(t, 40)
	alloc(t, h, 1, 14)
	alloc(t, h, 2, 9)
	alloc(t, h, 3, 9)
	slide(t, h, 1, 1)
	was := h.Used()
	live(t, h, 25)
	is(t, "Alloc", h.Alloc(4, 15, false), api.ErrFull)
	used(t, h, was)
	alloc(t, h, 4, 14)
	live(t, h, 40)
}

// A heap as large as can be, all of whose objects are in one object's reach, is worn out many times over.
func TestALargeHeap(t *testing.T) {
	h := newHeap(t, api.MaxHeap)
	alloc(t, h, 1, 1000)
	for round := range 40 * 1000 {
		alloc(t, h, 2, 40)
		num(t, h, uint64(round))
		set(t, h, 1, round%40, 2)
		set(t, h, 0, round%1000, 1)
		slide(t, h, 2, 0)
	}
	live(t, h, 1001+1000*41)
	if h.Used() > api.MaxHeap {
		t.Fatalf("Used: %d", h.Used())
	}
	_, objects := h.Walk()
	for i, o := range objects[1:] {
		round := 39*1000 + i
		if f := o.Fields[round%40]; f != number(uint64(round)) {
			t.Fatalf("object %d: %v", i, f)
		}
	}
	h.Major()
	used(t, h, 1001+1000*41)
}
