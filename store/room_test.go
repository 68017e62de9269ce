package store_test

import (
	"fmt"
	"slices"
	"strings"
	"testing"

	"quire/api"
	"quire/store"
)

// fits answers whether there is room for values of a list by P11.4.
func fits(m *store.Mem, words int, list ...api.Value) bool {
	need := m.Live()
	for _, v := range list {
		n, _ := store.Cost(v)
		need += n
	}
	return need <= words
}

// P8, P11.4: what fits comes, however often the room was taken and let go; what does not fit changes nothing.
func TestWhatFitsComes(t *testing.T) {
	all := values(list(), str(""), str("123456789"), quot(call("dup"), push(num(1))), list(str("a"), list(num(1)), quot(call("x"))))
	for words := 1; words <= 60; words++ {
		for _, v := range all {
			m := newMem(t, words)
			var stack []api.Value
			for range 30 {
				for fits(m, words, v) && m.Depth() < api.MaxStack {
					pushes(t, m, v)
					stack = append(stack, v)
				}
				is(t, "Push without room", m.Push(v), api.ErrFull)
				is(t, "Replace without room", m.Replace(0, values(num(1), v)), api.ErrFull)
				has(t, m, only(1, stack...))
				if len(stack) > 0 {
					pops(t, m, v)
					pushes(t, m, v)
					does(t, "Replace", m.Replace((len(stack)+1)/2, nil))
					stack = stack[:len(stack)/2]
				}
			}
		}
	}
}

// What begins to be laid and then finds no room leaves the room that it took.
func TestWhatIsBegunIsLetGo(t *testing.T) {
	m := newMem(t, 50)
	pushes(t, m, list(str("kept")))
	does(t, "Box", m.Box())
	live := m.Live()
	want := api.State{Stack: values(box(1)), Boxes: boxes(holds(1, list(str("kept")))), Next: 2}
	large := list(box(1), str("1234567890"), list(quot(call("dup")), str(strings.Repeat("a", 400))), num(1))
	for range 20 {
		is(t, "Push", m.Push(large), api.ErrFull)
		is(t, "Replace", m.Replace(1, values(box(1), list(num(1)), large)), api.ErrFull)
		if m.Live() != live {
			t.Fatalf("Live: %d, want %d", m.Live(), live)
		}
		has(t, m, want)
		pushes(t, m, str(strings.Repeat("b", 8*(50-live-2))))
		if m.Live() > 50 {
			t.Fatalf("Live: %d", m.Live())
		}
		does(t, "Replace", m.Replace(1, nil))
	}
}

// A box takes 3 words, and can be had as long as these are there.
func TestRoomForBoxes(t *testing.T) {
	for words := 1; words <= 30; words++ {
		m := newMem(t, words)
		pushes(t, m, num(1))
		next := 1
		for range 20 {
			for m.Live()+3 <= words {
				does(t, "Box", m.Box())
				next++
			}
			was := m.State()
			is(t, "Box without room", m.Box(), api.ErrFull)
			has(t, m, was)
			if was.Next != next {
				t.Fatalf("Next: %d, want %d", was.Next, next)
			}
			if len(was.Boxes) > 0 {
				does(t, "Get", m.Get())
			}
		}
	}
}

// The room of what boxes held before is free again, though the boxes are old.
func TestPutLetsGo(t *testing.T) {
	m := newMem(t, 40)
	pushes(t, m, num(0))
	does(t, "Box", m.Box())
	m.Major()
	for i := range 200 {
		v := list(str(fmt.Sprint("number ", i)), num(int64(i)))
		pushes(t, m, v, box(1))
		does(t, "Put", m.Put())
		has(t, m, api.State{Stack: values(box(1)), Boxes: boxes(holds(1, v)), Next: 2})
	}
	if m.Live() > 3+8 {
		t.Errorf("Live: %d", m.Live())
	}
}

// Get takes no room: it can be asked for in a memory that is full.
func TestGetAndPutInAFullMemory(t *testing.T) {
	m := newMem(t, 8)
	pushes(t, m, list(num(1), num(2), num(3), num(4)))
	does(t, "Box", m.Box())
	is(t, "Push without room", m.Push(list()), api.ErrFull)
	pushes(t, m, box(1), box(1))
	does(t, "Get", m.Get())
	has(t, m, api.State{Stack: values(box(1), box(1), list(num(1), num(2), num(3), num(4))), Boxes: boxes(holds(1, list(num(1), num(2), num(3), num(4)))), Next: 2})
	pushes(t, m, box(1))
	does(t, "Put", m.Put())
	pushes(t, m, num(9), box(1))
	does(t, "Put", m.Put())
	has(t, m, api.State{Stack: values(box(1), box(1)), Boxes: boxes(holds(1, num(9))), Next: 2})
	pushes(t, m, list(num(1), num(2), num(3), num(4)))
}

// A memory as large as can be is worn out many times over.
func TestALargeMemory(t *testing.T) {
	m := newMem(t, api.MaxHeap)
	pushes(t, m, num(0))
	does(t, "Box", m.Box())
	text := strings.Repeat("x", 1000)
	var want []api.Value
	for i := range 3000 {
		v := list(num(int64(i)), str(text), quot(push(box(1)), call("get")))
		pushes(t, m, v)
		want = append(want, v)
		if len(want) == 100 {
			does(t, "Replace", m.Replace(60, nil))
			want = want[:40]
		}
	}
	want = slices.Concat(values(box(1)), want)
	has(t, m, api.State{Stack: want, Boxes: boxes(holds(1, num(0))), Next: 2})
	m.Major()
	has(t, m, api.State{Stack: want, Boxes: boxes(holds(1, num(0))), Next: 2})
}
