package store_test

import (
	"fmt"
	"testing"

	"quire/api"
	"quire/store"
)

// spoil writes over all lists of a value, spare room included, from the innermost on.
func spoil(v api.Value) {
	switch x := v.(type) {
	case api.List:
		for _, v := range x.Items {
			spoil(v)
		}
		spoilList(x.Items)
	case api.Quot:
		for _, item := range x.Items {
			if p, ok := item.(api.Push); ok {
				spoil(p.V)
			}
		}
		all := x.Items[:cap(x.Items)]
		for i := range all {
			all[i] = call("spoilt")
		}
	}
}

func spoilList(list []api.Value) {
	all := list[:cap(list)]
	for i := range all {
		all[i] = str("spoilt")
	}
}

func spoilState(s api.State) {
	for _, v := range s.Stack {
		spoil(v)
	}
	spoilList(s.Stack)
	for _, c := range s.Boxes {
		spoil(c.V)
	}
	all := s.Boxes[:cap(s.Boxes)]
	for i := range all {
		all[i] = holds(99, str("spoilt"))
	}
}

// roomy answers a value with spare room in its lists, in which one list stands several times.
func roomy() api.Value {
	one := append(make([]api.Value, 0, 5), num(1), str("two"))
	code := append(make([]api.Item, 0, 4), call("a"), push(api.List{Items: one}))
	all := append(make([]api.Value, 0, 9), api.List{Items: one}, api.Quot{Items: code}, list(api.List{Items: one}, api.Quot{Items: code}), api.List{Items: make([]api.Value, 0, 3)})
	for _, spare := range [][]api.Value{one[2:5], all[4:9]} {
		for i := range spare {
			spare[i] = str("spare")
		}
	}
	code[:4][2], code[:4][3] = call("spare"), call("spare")
	return api.List{Items: all}
}

// tellAll tells a value with the spare room of its lists.
func tellAll(v api.Value) string {
	switch x := v.(type) {
	case api.List:
		s := fmt.Sprint("List ", len(x.Items), "(")
		for _, v := range x.Items[:cap(x.Items)] {
			s += tellAll(v) + " "
		}
		return s + ")"
	case api.Quot:
		s := fmt.Sprint("Quot ", len(x.Items), "(")
		for _, item := range x.Items[:cap(x.Items)] {
			if p, ok := item.(api.Push); ok {
				s += "Push " + tellAll(p.V) + " "
				continue
			}
			s += tellItem(item) + " "
		}
		return s + ")"
	}
	return tell(v)
}

// R4: what is handed in is not changed

func TestWhatIsHandedInStays(t *testing.T) {
	v := roomy()
	told := tellAll(v)
	whole := append(make([]api.Value, 0, 6), v, v, num(1))
	for i := range whole[3:6] {
		whole[:6][3+i] = str("spare")
	}
	held := append(make([]api.Content, 0, 4), holds(1, v), holds(2, box(1)))
	held[:4][2], held[:4][3] = holds(7, str("spare")), holds(8, str("spare"))
	stack := append(make([]api.Value, 0, 6), v, box(2), v)
	for i := range stack[3:6] {
		stack[:6][3+i] = str("spare")
	}
	allTold := tellAll(api.List{Items: whole})
	stackTold := tellAll(api.List{Items: stack})
	check := func() {
		t.Helper()
		if tellAll(v) != told || tellAll(api.List{Items: whole}) != allTold || tellAll(api.List{Items: stack}) != stackTold {
			t.Errorf("what was handed in has changed")
		}
		for i, c := range boxes(holds(1, v), holds(2, box(1)), holds(7, str("spare")), holds(8, str("spare"))) {
			if got := held[:4][i]; got.N != c.N || tell(got.V) != tell(c.V) {
				t.Errorf("box %d that was handed in has changed: %v", i, got)
			}
		}
	}
	store.Cost(v)
	check()
	m := of(t, api.State{Stack: stack, Boxes: held, Next: 3})
	check()
	pushes(t, m, v)
	does(t, "Replace", m.Replace(2, whole))
	check()
	small := newMem(t, 10)
	is(t, "Push", small.Push(v), api.ErrFull)
	is(t, "Replace", small.Replace(0, whole), api.ErrFull)
	if _, e := store.Of(api.State{Stack: stack, Boxes: held, Next: 3}, 10); e != api.ErrFull {
		t.Errorf("Of: %d", e)
	}
	check()
	spoilState(m.State())
	check()
}

// R4: what is handed in is not kept

func TestWhatIsHandedInIsNotKept(t *testing.T) {
	m := newMem(t, 300)
	v, w := roomy(), values(roomy(), roomy())
	pushes(t, m, v)
	does(t, "Replace", m.Replace(0, w))
	spoil(v)
	for _, v := range w {
		spoil(v)
	}
	spoilList(w)
	for range 3 {
		pops(t, m, roomy())
	}
	s := api.State{Stack: values(roomy(), box(1)), Boxes: boxes(holds(1, roomy())), Next: 2}
	was := tellState(s)
	m = of(t, s)
	spoilState(s)
	if got := tellState(m.State()); got != was {
		t.Errorf("State: %s", short(got))
	}
}

// R4: what is answered is new memory

func TestAnswersAreNew(t *testing.T) {
	s := api.State{Stack: values(roomy(), box(1), roomy()), Boxes: boxes(holds(1, roomy())), Next: 2}
	m := of(t, s)
	pushes(t, m, box(1))
	does(t, "Get", m.Get()) // one list in the heap with that of the box
	s.Stack = append(s.Stack, roomy())
	for range 2 {
		first, second := m.State(), m.State()
		picked, _ := m.Pick(0)
		again, _ := m.Pick(0)
		spoilState(first)
		spoil(picked)
		if tell(again) != tell(roomy()) || tellState(second) != tellState(s) {
			t.Errorf("one answer has changed with another")
		}
		has(t, m, s)
		m.Minor()
	}
	c := m.Copy()
	v, _ := m.Pop()
	spoil(v)
	has(t, c, s)
}

// marked puts a mark of its own into each list of a value, and answers whether all marks stand once all were put.
func marked(s api.State) bool {
	var checks []func() bool
	mark := func(name string, list []api.Value) {
		for i := range list[:cap(list)] {
			list[:cap(list)][i] = str(name)
		}
		checks = append(checks, func() bool {
			for _, v := range list[:cap(list)] {
				if v != str(name) {
					return false
				}
			}
			return true
		})
	}
	var visit func(v api.Value)
	visit = func(v api.Value) {
		switch x := v.(type) {
		case api.List:
			for _, v := range x.Items {
				visit(v)
			}
			mark(fmt.Sprint(len(checks)), x.Items)
		case api.Quot:
			for _, item := range x.Items {
				if p, ok := item.(api.Push); ok {
					visit(p.V)
				}
			}
		}
	}
	for _, v := range s.Stack {
		visit(v)
	}
	for _, c := range s.Boxes {
		visit(c.V)
	}
	mark("stack", s.Stack)
	for _, check := range checks {
		if !check() {
			return false
		}
	}
	return len(checks) > 10
}

// No two lists of one answer are one, also where the heap has them once.
func TestListsOfOneAnswerShareNothing(t *testing.T) {
	m := newMem(t, 300)
	pushes(t, m, list(list(num(1), num(2)), quot(push(list(num(3)))), list()))
	does(t, "Box", m.Box())
	for range 3 {
		pushes(t, m, box(1))
		does(t, "Get", m.Get())
		does(t, "Box", m.Box())
		pushes(t, m, box(1))
		does(t, "Get", m.Get())
	}
	if !marked(m.State()) {
		t.Errorf("two lists of one answer share memory")
	}
}

// P11.5

func TestCopiesGoTheirOwnWays(t *testing.T) {
	start := api.State{Stack: values(list(str("a")), num(2), box(1), box(3)), Boxes: boxes(holds(1, list(box(3))), holds(3, str("three"))), Next: 4}
	ways := []func(m *store.Mem){
		func(m *store.Mem) { pushes(t, m, list(box(1), str("new"))) },
		func(m *store.Mem) { m.Pop() },
		func(m *store.Mem) { does(t, "Replace", m.Replace(4, values(num(9)))) },
		func(m *store.Mem) { does(t, "Box", m.Box()); does(t, "Box", m.Box()) },
		func(m *store.Mem) { does(t, "Get", m.Get()) },
		func(m *store.Mem) { does(t, "Put", m.Put()) },
		func(m *store.Mem) { m.Minor() },
		func(m *store.Mem) { m.Pop(); m.Major() },
	}
	small := func() *store.Mem {
		m, e := store.Of(start, 40)
		is(t, "Of", e, api.OK)
		return m
	}
	for _, way := range ways {
		for _, later := range ways {
			alone := small()
			way(alone)
			want := alone.State()
			m := small()
			c := m.Copy()
			if c.Live() != m.Live() {
				t.Fatalf("Live of a copy: %d, want %d", c.Live(), m.Live())
			}
			way(m)
			has(t, c, start)
			later(c)
			has(t, m, want)
			m = small()
			c = m.Copy()
			way(c)
			has(t, m, start)
			later(m)
			has(t, c, want)
		}
	}
	c := small().Copy()
	live := c.Live()
	is(t, "Push into a copy, beyond its room", c.Push(list(alike(40-live, num(1))...)), api.ErrFull)
	pushes(t, c, list(alike(40-live-1, num(1))...))
}
