package store_test

import (
	"math"
	"slices"
	"testing"

	"quire/api"
	"quire/store"
)

// cost is the cost of a state: of all values, and of what boxes hold, and 3 for each box.
func cost(s api.State) int {
	words := 3 * len(s.Boxes)
	add := func(v api.Value) {
		n, _ := store.Cost(v)
		words += n
	}
	for _, v := range s.Stack {
		add(v)
	}
	for _, c := range s.Boxes {
		add(c.V)
	}
	return words
}

func soundStates() []api.State {
	return []api.State{
		only(1), only(2), only(api.MaxBoxes), {Stack: values(), Boxes: boxes(), Next: 7},
		only(1, sound()...),
		only(5, alike(api.MaxStack, num(1))...),
		{Stack: values(box(1)), Boxes: boxes(holds(1, num(5))), Next: 2},
		{Stack: values(box(1)), Boxes: boxes(holds(1, box(1))), Next: 2},
		{Stack: values(box(3)), Boxes: boxes(holds(3, box(5)), holds(5, flag(true))), Next: 9},
		{Stack: values(box(5)), Boxes: boxes(holds(3, flag(true)), holds(5, box(3))), Next: 6},
		{Stack: values(num(1), list(box(2), box(1), box(2)), quot(push(box(1)), call("get"))), Boxes: boxes(holds(1, str("a")), holds(2, list())), Next: 3},
		{Stack: values(quot(push(list(quot(push(box(4))))))), Boxes: boxes(holds(1, list(box(4))), holds(4, quot(push(box(1)), push(box(9)))), holds(9, str("nine"))), Next: 10},
		{Stack: values(box(api.MaxBoxes - 1)), Boxes: boxes(holds(api.MaxBoxes-1, num(1))), Next: api.MaxBoxes},
	}
}

// P11.1, P2

func TestOf(t *testing.T) {
	for _, s := range soundStates() {
		m := of(t, s)
		has(t, m, s)
		if m.Live() > cost(s) {
			t.Errorf("Live of %s: %d, its cost is %d", short(tellState(s)), m.Live(), cost(s))
		}
		m.Minor()
		has(t, m, s)
		m.Major()
		has(t, m, s)
		has(t, of(t, m.State()), s)
	}
}

// P11.4: there is room for a state in as many words as it costs.
func TestOfFitsItsCost(t *testing.T) {
	for _, s := range soundStates() {
		words := max(1, cost(s))
		m, e := store.Of(s, words)
		is(t, "Of "+short(tellState(s)), e, api.OK)
		has(t, m, s)
		if len(s.Stack) == 0 || cost(s) < 2 {
			continue
		}
		if m, e := store.Of(s, words-1); m != nil || e != api.ErrFull {
			t.Errorf("Of in one word less: %v, %d", m, e)
		}
	}
}

// What comes in a memory of a state is what would come in one that was filled by hand.
func TestOfGoesOn(t *testing.T) {
	m := of(t, api.State{Stack: values(num(1), list(box(3))), Boxes: boxes(holds(2, str("two")), holds(3, box(2))), Next: 8})
	pushes(t, m, box(2), box(3))
	is(t, "Push of no box", m.Push(box(7)), api.ErrForm)
	is(t, "Push of no box", m.Push(box(1)), api.ErrForm)
	does(t, "Box", m.Box())
	has(t, m, api.State{Stack: values(num(1), list(box(3)), box(2), box(8)), Boxes: boxes(holds(2, str("two")), holds(3, box(2)), holds(8, box(3))), Next: 9})
	does(t, "Get", m.Get())
	does(t, "Put", m.Put())
	has(t, m, api.State{Stack: values(num(1), list(box(3))), Boxes: boxes(holds(2, str("two")), holds(3, box(2))), Next: 9})
}

func TestOfRefuses(t *testing.T) {
	one := holds(1, num(1))
	states := []api.State{
		{}, only(0), only(-1), only(api.MaxBoxes + 1), only(math.MaxInt), only(math.MinInt),
		only(1, alike(api.MaxStack+1, num(1))...),
		{Boxes: boxes(one), Next: 2}, // nothing reaches it
		{Stack: values(num(1)), Boxes: boxes(one), Next: 2},
		{Stack: values(box(1)), Next: 2}, // no such box
		{Stack: values(box(2)), Boxes: boxes(one), Next: 3},
		{Stack: values(box(1), list(quot(push(box(2))))), Boxes: boxes(one), Next: 3},
		{Stack: values(box(1)), Boxes: boxes(holds(1, box(2))), Next: 3},
		{Stack: values(box(1)), Boxes: boxes(one), Next: 1}, // beyond the next
		{Stack: values(box(2)), Boxes: boxes(holds(2, num(1))), Next: 2},
		{Stack: values(box(3)), Boxes: boxes(holds(3, num(1))), Next: 2},
		{Stack: values(box(api.MaxBoxes)), Boxes: boxes(holds(api.MaxBoxes, num(1))), Next: api.MaxBoxes},
		{Stack: values(box(api.MaxBoxes)), Boxes: boxes(holds(api.MaxBoxes, num(1))), Next: api.MaxBoxes + 1},
		{Stack: values(box(1)), Boxes: boxes(holds(0, num(1)), one), Next: 2}, // numbers that are none
		{Stack: values(box(0)), Boxes: boxes(holds(0, num(1))), Next: 2},
		{Stack: values(box(1)), Boxes: boxes(holds(-1, num(1)), one), Next: 2},
		{Stack: values(box(-1)), Boxes: boxes(holds(-1, num(1))), Next: 2},
		{Stack: values(box(1)), Boxes: boxes(one, one), Next: 2}, // not rising
		{Stack: values(box(1), box(2)), Boxes: boxes(holds(2, num(1)), one), Next: 3},
		{Stack: values(box(1), box(2)), Boxes: boxes(one, holds(2, num(1)), one), Next: 3},
		{Stack: values(box(1)), Boxes: boxes(one, holds(2, num(1))), Next: 3}, // one of two is reached
		{Stack: values(box(1)), Boxes: boxes(one, holds(2, box(2))), Next: 3},
		{Stack: values(box(1)), Boxes: boxes(one, holds(2, box(3)), holds(3, box(2))), Next: 4},
		{Stack: values(box(2)), Boxes: boxes(holds(1, box(2)), holds(2, num(1))), Next: 3},
	}
	for _, v := range unsound() {
		states = append(states, only(9, v), only(9, num(1), v, num(2)), only(9, list(v)),
			api.State{Stack: values(box(1)), Boxes: boxes(holds(1, v)), Next: 2},
			api.State{Stack: values(box(1), list(box(2))), Boxes: boxes(one, holds(2, list(v))), Next: 3})
	}
	for i, s := range states {
		for _, words := range []int{api.MaxHeap, 1, 0, -1, api.MaxHeap + 1} {
			if m, e := store.Of(s, words); m != nil || e != api.ErrForm {
				t.Errorf("state %d in %d words: %v, %d", i, words, m, e)
			}
		}
	}
}

func TestOfRefusesWords(t *testing.T) {
	for _, s := range soundStates() {
		for _, words := range []int{0, -1, api.MaxHeap + 1, math.MaxInt, math.MinInt} {
			if m, e := store.Of(s, words); m != nil || e != api.ErrArg {
				t.Errorf("Of in %d words: %v, %d", words, m, e)
			}
		}
	}
}

// crowd answers a state of so many boxes, each of which holds the next one.
func crowd(count int) api.State {
	s := api.State{Next: count + 1}
	for n := 1; n <= count; n++ {
		held := num(int64(n))
		if n < count {
			held = box(n + 1)
		}
		s.Boxes = append(s.Boxes, holds(n, held))
	}
	s.Stack = values(list(box(1)))
	return s
}

func TestOfManyBoxes(t *testing.T) {
	s := crowd((api.MaxHeap - 2) / 3)
	has(t, of(t, s), s)
	for _, count := range []int{len(s.Boxes) + 1, 70000, api.MaxBoxes - 1} {
		if m, e := store.Of(crowd(count), api.MaxHeap); m != nil || e != api.ErrFull {
			t.Errorf("Of %d boxes: %v, %d", count, m, e)
		}
	}
	s = crowd(api.MaxBoxes - 1)
	s.Boxes[len(s.Boxes)-1].V = box(api.MaxBoxes)
	if m, e := store.Of(s, api.MaxHeap); m != nil || e != api.ErrForm {
		t.Errorf("Of boxes the last of which names none: %v, %d", m, e)
	}
}

// A state as large as the stack can make it is refused for its room alone.
func TestOfALargeState(t *testing.T) {
	s := only(1, alike(api.MaxStack, list(alike(api.MaxSize-1, num(1))...))...)
	if m, e := store.Of(s, api.MaxHeap); m != nil || e != api.ErrFull {
		t.Errorf("Of: %v, %d", m, e)
	}
	s.Stack = s.Stack[:api.MaxHeap/api.MaxSize]
	has(t, of(t, s), s)
}

// P11.5

func TestStateIsSound(t *testing.T) {
	m := newMem(t, 500)
	for n := range 30 {
		pushes(t, m, num(int64(n)))
		does(t, "Box", m.Box())
		if n%3 == 2 {
			does(t, "Put", m.Put())
		}
		if n%5 == 4 {
			does(t, "Replace", m.Replace(1, nil))
		}
		s := m.State()
		has(t, of(t, s), s)
		if !slices.IsSortedFunc(s.Boxes, func(a, b api.Content) int { return a.N - b.N }) {
			t.Errorf("boxes: %v", s.Boxes)
		}
	}
}
