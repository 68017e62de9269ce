package store_test

import (
	"strings"
	"testing"

	"quire/api"
	"quire/store"
)

func does(t *testing.T, what string, e api.Errno) {
	t.Helper()
	is(t, what, e, api.OK)
}

// P11.3

func TestBoxesHoldEachValue(t *testing.T) {
	for _, v := range sound() {
		m := newMem(t, 10000)
		pushes(t, m, flag(true), v)
		does(t, "Box", m.Box())
		boxed := api.State{Stack: values(flag(true), box(1)), Boxes: boxes(holds(1, v)), Next: 2}
		has(t, m, boxed)
		m.Minor()
		has(t, m, boxed)
		m.Major()
		has(t, m, boxed)
		does(t, "Get", m.Get())
		has(t, m, only(2, flag(true), v))
		m.Major()
		has(t, m, only(2, flag(true), v))
	}
}

func TestBoxRefuses(t *testing.T) {
	m := newMem(t, 4)
	is(t, "Box of nothing", m.Box(), api.ErrUnder)
	is(t, "Get of nothing", m.Get(), api.ErrUnder)
	is(t, "Put of nothing", m.Put(), api.ErrUnder)
	has(t, m, only(1))
	pushes(t, m, num(1), num(2))
	does(t, "Box", m.Box())
	is(t, "Box without room", m.Box(), api.ErrFull)
	has(t, m, api.State{Stack: values(num(1), box(1)), Boxes: boxes(holds(1, num(2))), Next: 2})
	does(t, "Get", m.Get())
	does(t, "Box", m.Box()) // the room of the first is free again
	has(t, m, api.State{Stack: values(num(1), box(2)), Boxes: boxes(holds(2, num(2))), Next: 3})
}

func TestGetAndPutRefuseOtherKinds(t *testing.T) {
	for _, v := range sound() {
		m := newMem(t, 10000)
		pushes(t, m, num(1))
		does(t, "Box", m.Box())
		pushes(t, m, v)
		was := m.State()
		is(t, "Get", m.Get(), api.ErrKind)
		is(t, "Put", m.Put(), api.ErrKind)
		has(t, m, was)
		does(t, "Replace", m.Replace(2, values(v)))
		is(t, "Get", m.Get(), api.ErrKind)
		is(t, "Put of one", m.Put(), api.ErrUnder)
		has(t, m, only(2, v))
	}
}

func TestPutOfABoxAlone(t *testing.T) {
	m := newMem(t, 10)
	pushes(t, m, num(1))
	does(t, "Box", m.Box())
	is(t, "Put", m.Put(), api.ErrUnder)
	has(t, m, api.State{Stack: values(box(1)), Boxes: boxes(holds(1, num(1))), Next: 2})
}

func TestPut(t *testing.T) {
	for _, v := range sound() {
		m := newMem(t, 10000)
		pushes(t, m, list(str("was")))
		does(t, "Box", m.Box())
		pushes(t, m, v, box(1))
		does(t, "Put", m.Put())
		want := api.State{Stack: values(box(1)), Boxes: boxes(holds(1, v)), Next: 2}
		has(t, m, want)
		m.Minor()
		has(t, m, want)
		m.Major()
		has(t, m, want)
	}
}

// A box is one, wherever it stands: what is put by way of one place is found by way of all others.
func TestABoxIsOne(t *testing.T) {
	m := newMem(t, 200)
	pushes(t, m, num(1))
	does(t, "Box", m.Box())
	pushes(t, m, list(box(1), box(1)), quot(push(box(1)), push(list(box(1)))), box(1))
	for i, v := range values(num(2), str("three"), list(num(4)), list(box(1)), quot(push(box(1)))) {
		if i%2 == 0 {
			m.Minor()
		}
		pushes(t, m, v, box(1))
		does(t, "Put", m.Put())
		want := api.State{Stack: values(box(1), list(box(1), box(1)), quot(push(box(1)), push(list(box(1)))), box(1)), Boxes: boxes(holds(1, v)), Next: 2}
		has(t, m, want)
		pushes(t, m, box(1))
		does(t, "Get", m.Get())
		pops(t, m, v)
		has(t, m, want)
	}
}

// What was got stays as it is when the box is made to hold another value.
func TestWhatWasGotStays(t *testing.T) {
	m := newMem(t, 100)
	pushes(t, m, list(str("a"), num(1)))
	does(t, "Box", m.Box())
	pushes(t, m, box(1))
	does(t, "Get", m.Get())
	pushes(t, m, num(2), box(1))
	does(t, "Put", m.Put())
	has(t, m, api.State{Stack: values(box(1), list(str("a"), num(1))), Boxes: boxes(holds(1, num(2))), Next: 2})
	pushes(t, m, list(box(1)), box(1))
	does(t, "Put", m.Put())
	does(t, "Box", m.Box())
	has(t, m, api.State{Stack: values(box(1), box(2)), Boxes: boxes(holds(1, list(box(1))), holds(2, list(str("a"), num(1)))), Next: 3})
}

// Boxes within boxes are reached; those that nothing reaches go, and their numbers do not come again.
func TestBoxesWithinBoxes(t *testing.T) {
	m := newMem(t, 200)
	pushes(t, m, str("inner"))
	for range 4 {
		does(t, "Box", m.Box())
	}
	all := boxes(holds(1, str("inner")), holds(2, box(1)), holds(3, box(2)), holds(4, box(3)))
	has(t, m, api.State{Stack: values(box(4)), Boxes: all, Next: 5})
	pushes(t, m, list(box(1), quot(push(box(3)))))
	is(t, "Push of no box", m.Push(box(5)), api.ErrForm)
	does(t, "Replace", m.Replace(2, values(box(2))))
	has(t, m, api.State{Stack: values(box(2)), Boxes: all[:2], Next: 5})
	for _, n := range []int{3, 4, 5} {
		is(t, "Push of a box that is gone", m.Push(box(n)), api.ErrForm)
	}
	does(t, "Get", m.Get())
	does(t, "Get", m.Get())
	has(t, m, only(5, str("inner")))
	does(t, "Box", m.Box())
	has(t, m, api.State{Stack: values(box(5)), Boxes: boxes(holds(5, str("inner"))), Next: 6})
}

// Boxes that hold one another, or themselves, are told once, and go when the stack lets them go.
func TestCirclesOfBoxes(t *testing.T) {
	m := newMem(t, 30)
	for round := range 20 {
		n := 2*round + 1
		pushes(t, m, num(1))
		does(t, "Box", m.Box())
		pushes(t, m, list(box(n)))
		does(t, "Box", m.Box())
		pushes(t, m, quot(push(box(n+1))), box(n))
		does(t, "Put", m.Put())
		pushes(t, m, box(n+1), box(n))
		if round%3 == 0 {
			m.Minor()
		}
		does(t, "Replace", m.Replace(4, values(box(n))))
		want := api.State{Stack: values(box(n)), Boxes: boxes(holds(n, quot(push(box(n+1)))), holds(n+1, list(box(n)))), Next: n + 2}
		has(t, m, want)
		if round%2 == 0 {
			m.Major()
			has(t, m, want)
		}
		pops(t, m, box(n))
		has(t, m, only(n+2))
		if m.Live() != 0 {
			t.Fatalf("Live of an empty memory: %d", m.Live())
		}
	}
	pushes(t, m, num(1))
	does(t, "Box", m.Box())
	pushes(t, m, box(41), box(41))
	does(t, "Put", m.Put())
	has(t, m, api.State{Stack: values(box(41)), Boxes: boxes(holds(41, box(41))), Next: 42})
	does(t, "Get", m.Get())
	has(t, m, api.State{Stack: values(box(41)), Boxes: boxes(holds(41, box(41))), Next: 42})
}

func TestTheLastBox(t *testing.T) {
	m := of(t, only(api.MaxBoxes-1, num(1), num(2)))
	does(t, "Box", m.Box())
	last := api.State{Stack: values(num(1), box(api.MaxBoxes-1)), Boxes: boxes(holds(api.MaxBoxes-1, num(2))), Next: api.MaxBoxes}
	has(t, m, last)
	is(t, "Box beyond the last", m.Box(), api.ErrLarge)
	has(t, m, last)
	is(t, "Push of a box beyond the last", m.Push(box(api.MaxBoxes)), api.ErrForm)
	has(t, of(t, last), last)
	does(t, "Replace", m.Replace(2, nil))
	is(t, "Box of nothing, beyond the last", m.Box(), api.ErrUnder)

	m, e := store.Of(only(api.MaxBoxes, num(1)), 1)
	is(t, "Of", e, api.OK)
	is(t, "Box beyond the last, without room", m.Box(), api.ErrLarge)
	has(t, m, only(api.MaxBoxes, num(1)))
}

// As many boxes within one another as a memory has room for, and the innermost is found.
func TestAsManyBoxesAsThereIsRoomFor(t *testing.T) {
	m := newMem(t, api.MaxHeap)
	pushes(t, m, num(1))
	count := api.MaxHeap / 3
	for range count {
		does(t, "Box", m.Box())
	}
	if m.Live() > api.MaxHeap {
		t.Fatalf("Live: %d", m.Live())
	}
	want := api.State{Stack: values(box(count)), Next: count + 1}
	held := num(1)
	for n := range count {
		want.Boxes = append(want.Boxes, holds(n+1, held))
		held = box(n + 1)
	}
	has(t, m, want)
	pushes(t, m, box(1), box(count/2), box(count))
	does(t, "Replace", m.Replace(4, values(box(1), box(2), box(count))))
	pops(t, m, box(count))
	want = api.State{Stack: values(box(1), box(2)), Boxes: want.Boxes[:2], Next: count + 1}
	has(t, m, want)
	pushes(t, m, str(strings.Repeat("a", api.MaxStr)))
	does(t, "Replace", m.Replace(1, nil))
	does(t, "Get", m.Get())
	has(t, m, api.State{Stack: values(box(1), box(1)), Boxes: want.Boxes[:1], Next: count + 1})
}

// One list that many boxes hold takes its room once, and is told for each.
func TestBoxesThatHoldOneList(t *testing.T) {
	m := newMem(t, 1500)
	l := list(alike(api.MaxSize-1, num(7))...)
	pushes(t, m, l)
	want := api.State{Next: 101}
	for n := 1; n <= 100; n++ {
		does(t, "Box", m.Box())
		want.Stack = append(want.Stack, box(n))
		want.Boxes = append(want.Boxes, holds(n, l))
		if n < 100 {
			pushes(t, m, box(n))
			does(t, "Get", m.Get())
		}
	}
	has(t, m, want)
	m.Major()
	has(t, m, want)
}
