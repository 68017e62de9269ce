package value_test

import (
	"fmt"
	"slices"
	"testing"

	"quire/api"
	"quire/value"
)

// marks writes over the spare room of each list in a value, with a mark of its own each, and sees whether all marks are still there.
type marks struct{ checks []func() bool }

func (m *marks) name() string { return fmt.Sprint("mark", len(m.checks)) }

func mark[T comparable](m *marks, list []T, with T) {
	spare := list[len(list):cap(list)]
	for i := range spare {
		spare[i] = with
	}
	m.checks = append(m.checks, func() bool {
		return !slices.ContainsFunc(spare, func(x T) bool { return x != with })
	})
}

func (m *marks) value(v api.Value) {
	switch x := v.(type) {
	case api.List:
		mark(m, x.Items, str(m.name()))
		for _, v := range x.Items {
			m.value(v)
		}
	case api.Quot:
		mark(m, x.Items, call(m.name()))
		for _, item := range x.Items {
			if p, ok := item.(api.Push); ok {
				m.value(p.V)
			}
		}
	}
}

func (m *marks) hold(t *testing.T) {
	t.Helper()
	for i, check := range m.checks {
		if !check() {
			t.Errorf("the spare room of list %d has changed", i)
		}
	}
}

// scribble writes over all lists of a value, from the innermost on, and tells how many places it found.
func scribble(v api.Value) int {
	places := 0
	switch x := v.(type) {
	case api.List:
		for i, v := range x.Items {
			places += 1 + scribble(v)
			x.Items[i] = str("x")
		}
	case api.Quot:
		for i, item := range x.Items {
			places++
			if p, ok := item.(api.Push); ok {
				places += scribble(p.V)
			}
			x.Items[i] = call("x")
		}
	}
	return places
}

// roomy answers a value with spare room in its lists, in which one list stands several times.
func roomy() api.Value {
	one := append(make([]api.Value, 0, 5), num(1), box(2))
	code := append(make([]api.Item, 0, 4), call("a"), push(api.List{Items: one}), push(box(7)))
	all := make([]api.Value, 0, 20)
	all = append(all, api.List{Items: one}, api.Quot{Items: code}, list(api.List{Items: one}, api.Quot{Items: code}), api.List{Items: one}, api.List{Items: make([]api.Value, 0, 3)}, api.Quot{Items: code})
	return api.List{Items: all}
}

// R4: what is handed in stays as it is

func TestWhatIsHandedInStays(t *testing.T) {
	v, w := roomy(), roomy()
	told := tell(v)
	for _, v := range []api.Value{v, w} {
		all := v.(api.List).Items
		spare := all[len(all):cap(all)]
		for i := range spare {
			spare[i] = str("spare")
		}
	}
	inner := v.(api.List).Items[0].(api.List).Items
	inner[:cap(inner)][2] = str("spare")
	code := v.(api.List).Items[1].(api.Quot).Items
	code[:cap(code)][3] = call("spare")
	check := func() {
		t.Helper()
		all := v.(api.List).Items
		for _, x := range all[len(all):cap(all)] {
			if x != str("spare") {
				t.Errorf("the spare room has changed")
			}
		}
		if tell(v) != told || tell(w) != told || inner[:cap(inner)][2] != str("spare") || code[:cap(code)][3] != call("spare") {
			t.Errorf("the value has changed")
		}
	}
	value.Check(v)
	value.CheckItems(code)
	value.Equal(v, w)
	value.Size(v)
	value.Depth(v)
	value.Text(v)
	c, _ := value.Copy(v)
	it, _ := value.Boxes(v)
	for range it {
	}
	l := value.MustList(v)
	check()
	m := &marks{}
	m.value(c)
	m.value(list(l...))
	check()
	scribble(c)
	scribble(list(l...))
	check()
}

// R4: what is answered shares no list with anything

func TestCopiesShareNothing(t *testing.T) {
	v := roomy()
	told := tell(v)
	first, _ := value.Copy(v)
	second, _ := value.Copy(v)
	third := api.List{Items: value.MustList(v)}
	fourth := api.List{Items: value.MustList(v)}
	m := &marks{}
	for _, c := range []api.Value{first, second, third, fourth} {
		m.value(c)
	}
	m.hold(t)
	size, _ := value.Size(v)
	for _, c := range []api.Value{first, second, third, fourth} {
		if tell(c) != told {
			t.Errorf("a copy has changed with another: %s", tell(c))
		}
		// A list that stands twice would have its parts written over when it is found again.
		if n := scribble(c); n != size-1 {
			t.Errorf("the copy has %d places, want %d", n, size-1)
		}
	}
	if tell(v) != told {
		t.Errorf("the value has changed with its copies")
	}
}

// The lists of one copy that were one list are two.
func TestListsOfOneCopy(t *testing.T) {
	inner := list(num(1))
	code := quot(push(inner))
	for _, v := range []api.Value{list(inner, inner), list(code, code), quot(push(inner), push(inner)), list(inner, code)} {
		c, _ := value.Copy(v)
		copies := []api.Value{c}
		if _, ok := v.(api.List); ok {
			copies = append(copies, list(value.MustList(v)...))
		}
		for _, c := range copies {
			scribble(parts(c)[0])
			if s, _ := value.Text(parts(c)[1]); s != "{ 1 }" && s != "[ { 1 } ]" {
				t.Errorf("the last part of the copy of %s: %s", tell(v), s)
			}
		}
	}
}

func parts(v api.Value) (all []api.Value) {
	switch x := v.(type) {
	case api.List:
		all = x.Items
	case api.Quot:
		for _, item := range x.Items {
			all = append(all, item.(api.Push).V)
		}
	}
	return all
}

// A copy of what is not sound shares nothing either.
func TestMustListOfWhatIsNotSoundSharesNothing(t *testing.T) {
	inner := list(nil, num(1))
	for _, v := range []api.Value{list(inner, inner), list(quot(call("t"), push(inner))), list(nested(100, inner)), list(alike(2000, inner)...)} {
		told := tell(v)
		if n := scribble(list(value.MustList(v)...)); n < 2 || tell(v) != told {
			t.Errorf("the copy shares a list with the value")
		}
	}
}

// R6

func TestBoxesAgain(t *testing.T) {
	v := list(box(3), quot(push(box(1))), box(3))
	it, e := value.Boxes(v)
	if e != api.OK {
		t.Fatalf("Boxes: %d", e)
	}
	for range 3 {
		if got := slices.Collect(it); !slices.Equal(got, []int{3, 1, 3}) {
			t.Errorf("Boxes: %v", got)
		}
	}
	for leave := range 3 {
		seen := 0
		for n := range it {
			if want := []int{3, 1, 3}[seen]; n != want {
				t.Errorf("box %d: %d, want %d", seen, n, want)
			}
			if seen == leave {
				break
			}
			seen++
		}
	}
	for range it {
		for range it {
		}
		scribble(v)
	}
	if got := slices.Collect(it); !slices.Equal(got, []int{3, 1, 3}) {
		t.Errorf("Boxes, when the value has changed: %v", got)
	}
}

// The iterator asks for no more once it was told to stop.
func TestBoxesStopAtOnce(t *testing.T) {
	it, _ := value.Boxes(list(box(1), box(2), box(3)))
	asked := 0
	it(func(int) bool { asked++; return asked < 2 })
	if asked != 2 {
		t.Errorf("asked %d times", asked)
	}
}

// R5: nothing of a call is seen in the next

func TestNothingIsKept(t *testing.T) {
	for range 3 {
		refused(t, list(alike(api.MaxSize, num(1))...))
		refused(t, nested(api.MaxNest+1, num(1)))
		is(t, list(num(1)), 2, 1, "{ 1 }")
		is(t, list(list(box(9))), 3, 2, "{ { box } }", 9)
	}
}
