package store_test

import (
	"fmt"
	"math"
	"slices"
	"strings"
	"testing"

	"quire/api"
	"quire/store"
)

func call(name string) api.Item               { return api.Call{Name: name} }
func push(v api.Value) api.Item               { return api.Push{V: v} }
func num(n int64) api.Value                   { return api.Int{N: n} }
func str(s string) api.Value                  { return api.Str{S: s} }
func flag(b bool) api.Value                   { return api.Bool{B: b} }
func box(n int) api.Value                     { return api.Box{N: n} }
func list(items ...api.Value) api.Value       { return api.List{Items: items} }
func quot(items ...api.Item) api.Value        { return api.Quot{Items: items} }
func values(list ...api.Value) []api.Value    { return list }
func alike(n int, v api.Value) []api.Value    { return slices.Repeat(values(v), n) }
func boxes(list ...api.Content) []api.Content { return list }
func holds(n int, v api.Value) api.Content    { return api.Content{N: n, V: v} }
func only(next int, v ...api.Value) api.State { return api.State{Stack: v, Next: next} }

// falseInt is an Int in disguise: a value by its methods, but none of the six.
type falseInt struct{ api.Int }

// tell writes down all that a value holds. Lists without anything in them are told as one, be they nil or not.
func tell(v api.Value) string {
	switch x := v.(type) {
	case api.List:
		var parts []string
		for _, v := range x.Items {
			parts = append(parts, tell(v))
		}
		return "List(" + strings.Join(parts, " ") + ")"
	case api.Quot:
		var parts []string
		for _, item := range x.Items {
			parts = append(parts, tellItem(item))
		}
		return "Quot(" + strings.Join(parts, " ") + ")"
	}
	return fmt.Sprintf("%#v", v)
}

func tellItem(item api.Item) string {
	if p, ok := item.(api.Push); ok {
		return "Push(" + tell(p.V) + ")"
	}
	return fmt.Sprintf("%#v", item)
}

func tellState(s api.State) string {
	var b strings.Builder
	for _, v := range s.Stack {
		b.WriteString(tell(v) + " ")
	}
	for _, c := range s.Boxes {
		fmt.Fprintf(&b, "| %d: %s ", c.N, tell(c.V))
	}
	fmt.Fprintf(&b, "| next %d", s.Next)
	return b.String()
}

// short cuts a long text for a message.
func short(s string) string {
	if len(s) > 200 {
		return s[:200] + " .."
	}
	return s
}

func is(t *testing.T, what string, got, want api.Errno) {
	t.Helper()
	if got != want {
		t.Fatalf("%s: %d, want %d", what, got, want)
	}
}

func newMem(t *testing.T, words int) *store.Mem {
	t.Helper()
	m, e := store.New(words)
	is(t, "New", e, api.OK)
	return m
}

// of answers a memory of a state, with room to spare.
func of(t *testing.T, s api.State) *store.Mem {
	t.Helper()
	m, e := store.Of(s, api.MaxHeap)
	is(t, "Of", e, api.OK)
	return m
}

func pushes(t *testing.T, m *store.Mem, list ...api.Value) {
	t.Helper()
	for _, v := range list {
		is(t, "Push of "+short(tell(v)), m.Push(v), api.OK)
	}
}

func pops(t *testing.T, m *store.Mem, want api.Value) {
	t.Helper()
	if v, e := m.Pop(); tell(v) != tell(want) || e != api.OK {
		t.Fatalf("Pop: %s, %d, want %s", short(tell(v)), e, short(tell(want)))
	}
}

// has asks for a state, and for what Depth and Pick tell of it.
func has(t *testing.T, m *store.Mem, want api.State) {
	t.Helper()
	if s := m.State(); tellState(s) != tellState(want) {
		t.Fatalf("State: %s, want %s", short(tellState(s)), short(tellState(want)))
	}
	if m.Depth() != len(want.Stack) {
		t.Fatalf("Depth: %d, want %d", m.Depth(), len(want.Stack))
	}
	for i := range want.Stack {
		v := want.Stack[len(want.Stack)-1-i]
		if got, e := m.Pick(i); tell(got) != tell(v) || e != api.OK {
			t.Fatalf("Pick(%d): %s, %d, want %s", i, short(tell(got)), e, short(tell(v)))
		}
	}
}

// nested answers a value within so many lists and quotations.
func nested(deep int, v api.Value) api.Value {
	for i := range deep {
		if i%2 == 0 {
			v = list(v)
		} else {
			v = quot(push(v))
		}
	}
	return v
}

// unsound answers values that are not sound, each for a reason of its own.
func unsound() []api.Value {
	itself := api.List{Items: make([]api.Value, 1)}
	itself.Items[0] = itself
	return []api.Value{
		nil, &api.Int{}, &api.Str{}, &api.Bool{}, &api.List{}, &api.Quot{}, &api.Box{N: 1}, falseInt{},
		num(api.MaxInt + 1), num(api.MinInt - 1), num(math.MaxInt64), num(math.MinInt64),
		str("\xff"), str("a\xc3"), str(strings.Repeat("a", api.MaxStr+1)),
		box(0), box(-1), box(api.MaxBoxes + 1), box(math.MaxInt), box(math.MinInt),
		list(nil), list(num(1), &api.Int{}), list(list(box(0))), itself,
		quot(nil), quot(push(nil)), quot(&api.Call{Name: "dup"}), quot(&api.Push{V: num(1)}),
		quot(call("")), quot(call("t")), quot(call("[")), quot(call("12")), quot(call("a b")), quot(call(strings.Repeat("a", api.MaxName+1))),
		list(alike(api.MaxSize, num(1))...), nested(api.MaxNest+1, num(1)),
	}
}

// sound answers values without boxes, each of which has something of its own.
func sound() []api.Value {
	name := strings.Repeat("語", api.MaxName)
	return []api.Value{
		num(0), num(1), num(-1), num(api.MaxInt), num(api.MinInt), num(1 << 59), flag(false), flag(true),
		str(""), str("a"), str("1234567"), str("12345678"), str("123456789"), str("\x00\x00"), str("é語\U0001f600"),
		str(strings.Repeat("\x00", 16)), str(strings.Repeat("é", api.MaxStr/2)), str(strings.Repeat("a", api.MaxStr)),
		list(), quot(), list(list()), list(quot()), quot(push(list())), quot(push(quot())),
		list(num(1), flag(true), str("one"), list(num(-2)), quot(call("dup"), push(num(3)))),
		quot(push(num(1)), push(flag(false)), push(str("dup")), call("dup"), push(list(num(2))), push(quot(call("+")))),
		quot(call("12345678" + "x")), quot(call("1234567x")), quot(call(name)), quot(call("a"), call("é"), call(name)),
		nested(api.MaxNest, str("deep")), list(alike(api.MaxSize-1, num(7))...),
		quot(slices.Repeat([]api.Item{call("dup")}, api.MaxSize-1)...),
	}
}

// P11.1

func TestNew(t *testing.T) {
	for _, words := range []int{1, 2, 100, api.MaxHeap - 1, api.MaxHeap} {
		m := newMem(t, words)
		has(t, m, only(1))
		if m.Live() != 0 {
			t.Errorf("Live of a new memory: %d", m.Live())
		}
	}
	for _, words := range []int{0, -1, api.MaxHeap + 1, math.MaxInt, math.MinInt} {
		if m, e := store.New(words); m != nil || e != api.ErrArg {
			t.Errorf("New(%d): %v, %d", words, m, e)
		}
	}
}

func TestCost(t *testing.T) {
	cases := []struct {
		v    api.Value
		cost int
	}{
		{num(5), 0}, {num(api.MinInt), 0}, {flag(true), 0}, {flag(false), 0}, {box(1), 0}, {box(api.MaxBoxes), 0},
		{str(""), 2}, {str("a"), 3}, {str("five"), 3}, {str("1234567"), 3}, {str("12345678"), 3}, {str("123456789"), 4}, {str("éééé"), 3}, {str("ééééa"), 4},
		{str(strings.Repeat("a", 4088)), 513}, {str(strings.Repeat("a", 4089)), 514}, {str(strings.Repeat("a", api.MaxStr)), 514},
		{list(), 1}, {list(num(5)), 2}, {list(num(1), flag(true), box(3)), 4}, {list(str("five")), 5}, {list(str("abcdefghi"), num(0)), 7},
		{list(list(), quot()), 5}, {list(alike(1023, num(1))...), 1024}, {list(alike(1023, str(""))...), 1 + 1023*3},
		{list(alike(1023, str(strings.Repeat("a", api.MaxStr)))...), 1 + 1023*515},
		{quot(), 1}, {quot(push(num(1))), 2}, {quot(push(box(9))), 2}, {quot(push(str("a"))), 5}, {quot(push(list())), 3}, {quot(push(quot(call("a")))), 7},
		{quot(call("a")), 5}, {quot(call("+"), call("dup")), 9}, {quot(call("abcdefgh")), 5}, {quot(call("abcdefghi")), 6},
		{quot(call("語語語")), 6}, {quot(call(strings.Repeat("\U00020000", api.MaxName))), 20},
		{nested(api.MaxNest, num(1)), 64}, {nested(api.MaxNest, str("a")), 67},
	}
	for _, c := range cases {
		if cost, e := store.Cost(c.v); cost != c.cost || e != api.OK {
			t.Errorf("Cost(%s): %d, %d, want %d", short(tell(c.v)), cost, e, c.cost)
		}
	}
	for _, v := range unsound() {
		if cost, e := store.Cost(v); cost != 0 || e != api.ErrForm {
			t.Errorf("Cost of what is not sound: %d, %d", cost, e)
		}
	}
}

// P11.2

func TestPushAndPop(t *testing.T) {
	m := newMem(t, api.MaxHeap)
	for _, v := range sound() {
		pushes(t, m, v)
	}
	has(t, m, only(1, sound()...))
	for _, v := range slices.Backward(sound()) {
		pops(t, m, v)
	}
	has(t, m, only(1))
}

// Each value alone, in just the room that it costs.
func TestEachValueFitsItsCost(t *testing.T) {
	for _, v := range sound() {
		cost, _ := store.Cost(v)
		m := newMem(t, max(1, cost))
		pushes(t, m, v)
		if m.Live() > cost {
			t.Errorf("Live behind Push of %s: %d, its cost is %d", short(tell(v)), m.Live(), cost)
		}
		m.Minor()
		m.Major()
		has(t, m, only(1, v))
		pops(t, m, v)
		pushes(t, m, v)
		is(t, "Replace", m.Replace(1, nil), api.OK)
		is(t, "Replace", m.Replace(0, values(v)), api.OK)
		has(t, m, only(1, v))
	}
}

func TestPushRefuses(t *testing.T) {
	m := newMem(t, 100)
	pushes(t, m, num(1), list(num(2)))
	for _, v := range unsound() {
		is(t, "Push of what is not sound", m.Push(v), api.ErrForm)
		is(t, "Push of what is not sound", m.Push(list(num(1), v)), api.ErrForm)
		is(t, "Push of what is not sound", m.Push(quot(push(v))), api.ErrForm)
	}
	for _, n := range []int{1, 2, api.MaxBoxes - 1, api.MaxBoxes} {
		for _, v := range values(box(n), list(box(n)), quot(push(box(n))), list(num(1), list(quot(push(list(box(n))))))) {
			is(t, "Push of no box", m.Push(v), api.ErrForm)
		}
	}
	has(t, m, only(1, num(1), list(num(2))))
	is(t, "Push of what is too large", m.Push(str(strings.Repeat("a", 1000))), api.ErrFull)
	has(t, m, only(1, num(1), list(num(2))))
}

func TestPushToTheLast(t *testing.T) {
	m := newMem(t, 1000)
	for m.Depth() < api.MaxStack {
		pushes(t, m, num(int64(m.Depth())))
	}
	is(t, "Push of one too many", m.Push(num(1)), api.ErrLarge)
	is(t, "Push of one too many, without room", m.Push(str(strings.Repeat("a", api.MaxStr))), api.ErrLarge)
	is(t, "Push of one too many, not sound", m.Push(nil), api.ErrForm)
	is(t, "Push of one too many, no box", m.Push(list(box(1))), api.ErrForm)
	if v, e := m.Pick(api.MaxStack - 1); v != num(0) || e != api.OK {
		t.Errorf("Pick of the bottom: %v, %d", v, e)
	}
	pops(t, m, num(api.MaxStack-1))
	pushes(t, m, flag(true))
	is(t, "Push of one too many", m.Push(num(1)), api.ErrLarge)
}

func TestPopAndPickRefuse(t *testing.T) {
	m := newMem(t, 100)
	check := func(i int, want api.Errno) {
		t.Helper()
		if v, e := m.Pick(i); v != nil || e != want {
			t.Errorf("Pick(%d) of %d: %v, %d, want %d", i, m.Depth(), v, e, want)
		}
	}
	for range 3 {
		for _, i := range []int{-1, math.MinInt} {
			check(i, api.ErrArg)
		}
		for _, i := range []int{m.Depth(), m.Depth() + 1, math.MaxInt} {
			check(i, api.ErrUnder)
		}
		pushes(t, m, num(1))
	}
	is(t, "Replace", m.Replace(3, nil), api.OK)
	if v, e := m.Pop(); v != nil || e != api.ErrUnder {
		t.Errorf("Pop: %v, %d", v, e)
	}
	has(t, m, only(1))
}

func TestReplace(t *testing.T) {
	for depth := range 5 {
		for k := range depth + 1 {
			for count := range 5 {
				m := newMem(t, 100)
				var was, come []api.Value
				for i := range depth {
					was = append(was, list(num(int64(i))))
				}
				for i := range count {
					come = append(come, list(str(fmt.Sprint(i))))
				}
				pushes(t, m, was...)
				is(t, "Replace", m.Replace(k, come), api.OK)
				has(t, m, only(1, append(was[:depth-k:depth-k], come...)...))
			}
		}
	}
}

func TestReplaceRefuses(t *testing.T) {
	m := newMem(t, 40)
	pushes(t, m, num(1), list(num(2)), str("three"))
	large, many := values(str(strings.Repeat("a", 1000))), alike(api.MaxStack+1, num(1))
	cases := []struct {
		k    int
		list []api.Value
		want api.Errno
	}{
		{0, values(num(1), nil), api.ErrForm}, {-1, values(nil), api.ErrForm}, {4, values(nil), api.ErrForm}, {0, append(many, nil), api.ErrForm},
		{1, values(num(1), box(1), num(2)), api.ErrForm}, {-1, values(list(box(1))), api.ErrForm}, {4, values(box(1)), api.ErrForm}, {0, append(large, box(1)), api.ErrForm},
		{-1, nil, api.ErrArg}, {math.MinInt, nil, api.ErrArg}, {-1, many, api.ErrArg}, {-1, large, api.ErrArg},
		{4, nil, api.ErrUnder}, {5, values(num(1)), api.ErrUnder}, {math.MaxInt, nil, api.ErrUnder}, {4, many, api.ErrUnder}, {4, large, api.ErrUnder},
		{3, many, api.ErrLarge}, {0, alike(api.MaxStack-2, num(1)), api.ErrLarge}, {2, alike(api.MaxStack, num(1)), api.ErrLarge}, {0, append(many, large...), api.ErrLarge},
		{0, large, api.ErrFull}, {3, large, api.ErrFull}, {0, append(values(str("a"), list(num(1))), large...), api.ErrFull}, {1, values(list(num(1), large[0])), api.ErrFull},
	}
	for i, c := range cases {
		if e := m.Replace(c.k, c.list); e != c.want {
			t.Errorf("case %d: Replace(%d, ..): %d, want %d", i, c.k, e, c.want)
		}
		has(t, m, only(1, num(1), list(num(2)), str("three")))
	}
}

func TestReplaceToTheLast(t *testing.T) {
	for _, k := range []int{0, 1, 100} {
		m := newMem(t, 1000)
		pushes(t, m, alike(100, num(1))...)
		count := api.MaxStack - 100 + k
		is(t, "Replace by one too many", m.Replace(k, alike(count+1, num(2))), api.ErrLarge)
		is(t, "Replace", m.Replace(k, alike(count, num(2))), api.OK)
		has(t, m, only(1, append(alike(100-k, num(1)), alike(count, num(2))...)...))
		is(t, "Replace by as many", m.Replace(api.MaxStack, alike(api.MaxStack, num(3))), api.OK)
		is(t, "Replace by none", m.Replace(api.MaxStack, nil), api.OK)
		has(t, m, only(1))
	}
}

// Boxes that only the values reach that go are still there for those that come.
func TestReplaceKeepsBoxes(t *testing.T) {
	m := newMem(t, 100)
	pushes(t, m, str("in"))
	is(t, "Box", m.Box(), api.OK)
	pushes(t, m, num(7))
	is(t, "Replace", m.Replace(2, values(list(box(1), num(8), box(1)), quot(push(box(1)), call("get")))), api.OK)
	want := api.State{Stack: values(list(box(1), num(8), box(1)), quot(push(box(1)), call("get"))), Boxes: boxes(holds(1, str("in"))), Next: 2}
	has(t, m, want)
	m.Major()
	has(t, m, want)
	is(t, "Replace", m.Replace(2, values(num(1))), api.OK)
	has(t, m, only(2, num(1)))
	is(t, "Replace by a box that is gone", m.Replace(1, values(box(1))), api.ErrForm)
}

// P11.6

func TestNil(t *testing.T) {
	for _, m := range []*store.Mem{nil, {}} { // one that was not made by New is taken for a nil one
		for _, v := range values(num(1), nil, box(1)) {
			is(t, "Push", m.Push(v), api.ErrArg)
			is(t, "Replace", m.Replace(0, values(v)), api.ErrArg)
			is(t, "Replace", m.Replace(-1, values(v)), api.ErrArg)
		}
		is(t, "Replace", m.Replace(1, nil), api.ErrArg)
		is(t, "Box", m.Box(), api.ErrArg)
		is(t, "Get", m.Get(), api.ErrArg)
		is(t, "Put", m.Put(), api.ErrArg)
		if v, e := m.Pop(); v != nil || e != api.ErrArg {
			t.Errorf("Pop: %v, %d", v, e)
		}
		for _, i := range []int{-1, 0, 1} {
			if v, e := m.Pick(i); v != nil || e != api.ErrArg {
				t.Errorf("Pick(%d): %v, %d", i, v, e)
			}
		}
		m.Minor()
		m.Major()
		if s := m.State(); len(s.Stack) != 0 || len(s.Boxes) != 0 || s.Next != 0 {
			t.Errorf("State: %v", s)
		}
		if m.Depth() != 0 || m.Live() != 0 || m.Copy() != nil {
			t.Errorf("Depth %d, Live %d, Copy %v", m.Depth(), m.Live(), m.Copy())
		}
	}
}

// Example 1

func TestExample(t *testing.T) {
	m := newMem(t, 100)
	pushes(t, m, num(5))
	is(t, "Box", m.Box(), api.OK)
	has(t, m, api.State{Stack: values(box(1)), Boxes: boxes(holds(1, num(5))), Next: 2})
	pushes(t, m, list(box(1)))
	pops(t, m, list(box(1)))
	is(t, "Push of no box", m.Push(box(2)), api.ErrForm)
	is(t, "Get", m.Get(), api.OK)
	has(t, m, only(2, num(5)))
	is(t, "Put", m.Put(), api.ErrUnder)
}
