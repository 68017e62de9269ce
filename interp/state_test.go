package interp_test

import (
	"math"
	"slices"
	"testing"

	"quire/api"
	"quire/interp"
	"quire/store"
)

// same holds that two runs answer the same.
func same(t *testing.T, a, b trial, fuel int) {
	t.Helper()
	s, out, used, e := interp.Run(a.words, a.items, a.state, fuel)
	s2, out2, used2, e2 := interp.Run(b.words, b.items, b.state, fuel)
	if tellState(s) != tellState(s2) || out != out2 || used != used2 || e != e2 {
		t.Errorf("%v: %s, %q, %d, %d, but %v: %s, %q, %d, %d", a, short(tellState(s)), out, used, e, b, short(tellState(s2)), out2, used2, e2)
	}
}

// nested answers a value within so many lists and quotations.
func nested(deep int, v api.Value) api.Value {
	for i := range deep {
		if i%2 == 0 {
			v = list(v)
		} else {
			v = quot(push(v))
		}
	}
	return v
}

// listOf answers a list of the given size.
func listOf(size int) api.Value { return list(alike(size-1, num(1))...) }

// quotOf answers a quotation of the given size.
func quotOf(size int) api.Value {
	return api.Quot{Items: slices.Repeat([]api.Item{call("a")}, size-1)}
}

func soundStates() []api.State {
	return []api.State{
		only(1), only(2), only(api.MaxBoxes), {Stack: values(), Boxes: boxes(), Next: 7},
		only(1, num(api.MaxInt), num(api.MinInt), str(""), str("é"), flag(true), list(), quot(), quot(call("foo"), push(str("a")))),
		only(3, listOf(api.MaxSize), quotOf(api.MaxSize), nested(api.MaxNest, num(1))),
		only(5, alike(api.MaxStack, num(1))...),
		{Stack: values(box(1)), Boxes: boxes(holds(1, num(5))), Next: 2},
		{Stack: values(box(1)), Boxes: boxes(holds(1, box(1))), Next: 2},
		{Stack: values(box(3)), Boxes: boxes(holds(3, box(5)), holds(5, flag(true))), Next: 9},
		{Stack: values(box(5)), Boxes: boxes(holds(3, flag(true)), holds(5, box(3))), Next: 6},
		{Stack: values(num(1), list(box(2), box(1), box(2)), quot(push(box(1)), call("get"))), Boxes: boxes(holds(1, str("a")), holds(2, list())), Next: 3},
		{Stack: values(quot(push(list(quot(push(box(4))))))), Boxes: boxes(holds(1, list(box(4))), holds(4, quot(push(box(1)), push(box(9)))), holds(9, str("nine"))), Next: 10},
		{Stack: values(box(api.MaxBoxes - 1)), Boxes: boxes(holds(api.MaxBoxes-1, num(1))), Next: api.MaxBoxes},
	}
}

// unsound answers values that are not sound.
func unsound() []api.Value {
	round := values(num(1), nil)
	round[1] = api.List{Items: round}
	return values(nil, &api.Int{}, &api.List{}, &api.Box{N: 1}, (*api.Quot)(nil), num(api.MaxInt+1), num(api.MinInt-1), num(math.MaxInt64), num(math.MinInt64),
		str("\xff"), str(string(make([]byte, api.MaxStr+1))), box(0), box(-1), box(api.MaxBoxes+1), box(math.MaxInt), box(math.MinInt),
		list(nil), list(num(1), &api.Str{}), quot(nil), quot(push(nil)), quot(call("")), quot(call("5")), quot(call("[")), quot(call("a b")), quot(&api.Push{V: num(1)}), quot(&api.Call{Name: "a"}),
		listOf(api.MaxSize+1), quotOf(api.MaxSize+1), nested(api.MaxNest+1, num(1)), api.List{Items: round})
}

// neverSound answers states that are not sound, whatever of their boxes goes.
func neverSound() []api.State {
	all := []api.State{
		{}, only(0), only(-1), only(api.MaxBoxes + 1), only(math.MaxInt), only(math.MinInt), only(0, num(1)),
		only(1, alike(api.MaxStack+1, num(1))...),
		only(1, box(1)), only(9, list(quot(push(box(3))))),
		{Stack: values(box(2)), Boxes: boxes(holds(1, num(1))), Next: 9},
		{Stack: values(box(1)), Boxes: boxes(holds(1, box(2))), Next: 9},
		{Stack: values(box(1)), Boxes: boxes(holds(1, num(1))), Next: 1},
		{Stack: values(box(7)), Boxes: boxes(holds(7, num(1))), Next: 7},
		{Stack: values(box(1)), Boxes: boxes(holds(1, box(8)), holds(8, num(1))), Next: 8},
		{Stack: values(box(api.MaxBoxes)), Boxes: boxes(holds(api.MaxBoxes, num(1))), Next: api.MaxBoxes},
		{Stack: values(box(api.MaxBoxes)), Boxes: boxes(holds(api.MaxBoxes, num(1))), Next: api.MaxBoxes + 1},
	}
	for _, v := range unsound() {
		all = append(all, only(2, v), only(2, num(1), v), only(2, v, num(1)),
			api.State{Stack: values(box(1)), Boxes: boxes(holds(1, v)), Next: 2},
			api.State{Stack: values(box(1)), Boxes: boxes(holds(1, box(2)), holds(2, v)), Next: 3})
	}
	for _, list := range notRising() {
		all = append(all, api.State{Boxes: list, Next: 9})
	}
	return all
}

// notRising answers boxes whose numbers do not rise from 1 on.
func notRising() [][]api.Content {
	v := num(1)
	return [][]api.Content{
		boxes(holds(0, v)), boxes(holds(-1, v)), boxes(holds(math.MinInt, v)), boxes(holds(0, v), holds(1, v)),
		boxes(holds(1, v), holds(1, v)), boxes(holds(2, v), holds(1, v)), boxes(holds(1, v), holds(3, v), holds(2, v)), boxes(holds(1, v), holds(0, v)),
		boxes(holds(1, v), holds(2, v), holds(3, v), holds(3, v)),
	}
}

// onlyTrimmed answers states that are sound without the boxes that the stack does not reach, and those.
func onlyTrimmed() [][2]api.State {
	one := holds(1, num(1))
	all := [][2]api.State{
		{{Boxes: boxes(one), Next: 2}, only(2)},
		{{Boxes: boxes(one), Next: 1}, only(1)},
		{{Stack: values(num(1)), Boxes: boxes(holds(1, box(1))), Next: 2}, only(2, num(1))},
		{{Stack: values(num(1)), Boxes: boxes(holds(1, box(2)), holds(2, box(1))), Next: 2}, only(2, num(1))},
		{{Stack: values(box(1)), Boxes: boxes(one, holds(2, box(1))), Next: 3}, api.State{Stack: values(box(1)), Boxes: boxes(one), Next: 3}},
		{{Stack: values(box(2)), Boxes: boxes(one, holds(2, num(5)), holds(3, num(6))), Next: 4}, {Stack: values(box(2)), Boxes: boxes(holds(2, num(5))), Next: 4}},
		{{Stack: values(list(box(4))), Boxes: boxes(one, holds(2, list(box(1))), holds(4, quot(push(box(6)))), holds(5, num(5)), holds(6, flag(true))), Next: 7},
			{Stack: values(list(box(4))), Boxes: boxes(holds(4, quot(push(box(6)))), holds(6, flag(true))), Next: 7}},
		{{Boxes: boxes(one, holds(2, num(2)), holds(api.MaxBoxes, num(1)), holds(api.MaxBoxes+1, num(1)), holds(math.MaxInt, num(1))), Next: 2}, only(2)},
		{{Stack: values(box(1)), Boxes: boxes(one, holds(2, box(9))), Next: 2}, {Stack: values(box(1)), Boxes: boxes(one), Next: 2}},
	}
	for _, v := range unsound() {
		all = append(all, [2]api.State{{Stack: values(box(1)), Boxes: boxes(one, holds(3, v)), Next: 5}, {Stack: values(box(1)), Boxes: boxes(one), Next: 5}})
	}
	return all
}

// P13.1

func TestCheck(t *testing.T) {
	for _, s := range soundStates() {
		if e := interp.Check(s); e != api.OK {
			t.Errorf("Check(%s): %d", short(tellState(s)), e)
		}
	}
	for _, s := range neverSound() {
		if e := interp.Check(s); e != api.ErrForm {
			t.Errorf("Check(%s): %d", short(tellState(s)), e)
		}
	}
	for _, both := range onlyTrimmed() {
		if e := interp.Check(both[0]); e != api.ErrForm {
			t.Errorf("Check(%s): %d", short(tellState(both[0])), e)
		}
		if e := interp.Check(both[1]); e != api.OK {
			t.Errorf("Check(%s): %d", short(tellState(both[1])), e)
		}
	}
}

// trims holds what is left of a state.
func trims(t *testing.T, s, want api.State) {
	t.Helper()
	got, e := interp.Trim(s)
	if e != api.OK || tellState(got) != tellState(want) {
		t.Errorf("Trim(%s): %s, %d, want %s", short(tellState(s)), short(tellState(got)), e, short(tellState(want)))
	}
}

func TestTrim(t *testing.T) {
	for _, s := range soundStates() {
		trims(t, s, s)
	}
	for _, both := range onlyTrimmed() {
		trims(t, both[0], both[1])
		trims(t, both[1], both[1])
	}
	for _, s := range neverSound() {
		got, e := interp.Trim(s)
		if e != api.ErrForm || got.Stack != nil || got.Boxes != nil || got.Next != 0 {
			t.Errorf("Trim(%s): %s, %d", short(tellState(s)), short(tellState(got)), e)
		}
	}
}

// Boxes whose numbers do not rise are refused, be they reached or not.
func TestTrimOfWhatDoesNotRise(t *testing.T) {
	for _, list := range notRising() {
		for _, stack := range [][]api.Value{nil, {num(1)}, {box(1)}} {
			s := api.State{Stack: stack, Boxes: list, Next: 9}
			if got, e := interp.Trim(s); e != api.ErrForm || got.Next != 0 {
				t.Errorf("Trim(%s): %s, %d", tellState(s), tellState(got), e)
			}
		}
	}
}

// A state may have very many boxes, each in the next: no depth is too great.
func TestTrimOfALongRow(t *testing.T) {
	const many = 100000
	s := api.State{Next: 2*many + 1}
	for i := 1; i <= 2*many; i++ {
		v := num(int64(i))
		if i > 2 {
			v = box(i - 2)
		}
		s.Boxes = append(s.Boxes, holds(i, v))
	}
	s.Stack = values(box(2 * many))
	got, e := interp.Trim(s)
	if e != api.OK || len(got.Boxes) != many || got.Boxes[0].N != 2 || got.Boxes[many-1] != holds(2*many, box(2*many-2)) {
		t.Errorf("Trim: %d boxes, %d", len(got.Boxes), e)
	}
	if e := interp.Check(s); e != api.ErrForm {
		t.Errorf("Check: %d", e)
	}
	if e := interp.Check(got); e != api.OK {
		t.Errorf("Check of what Trim leaves: %d", e)
	}
	r := trial{items: items(t, "get get"), state: got}
	after, _, used, e := interp.Run(r.words, r.items, r.state, 2)
	if e != api.OK || used != 2 || len(after.Boxes) != many-2 || after.Stack[0] != box(2*many-4) {
		t.Errorf("Run: %d boxes, %d", len(after.Boxes), e)
	}
}

// P2: store.Of of a state that is sound has that state; of another it answers ErrForm, as Check does.
func TestStatesOfAMemory(t *testing.T) {
	for _, s := range soundStates() {
		m, e := store.Of(s, api.MaxHeap)
		if e != api.OK || tellState(m.State()) != tellState(s) {
			t.Errorf("Of(%s): %d", short(tellState(s)), e)
		}
	}
	for _, s := range neverSound() {
		if _, e := store.Of(s, api.MaxHeap); e != interp.Check(s) {
			t.Errorf("Of(%s): %d", short(tellState(s)), e)
		}
	}
}
