package interp_test

import (
	"fmt"
	"maps"
	"math/rand"
	"slices"
	"strings"
	"testing"

	"quire/api"
	"quire/interp"
	"quire/prim"
	"quire/store"
	"quire/value"
)

// The model carries out items by functions that call themselves: how many frames there are is what each is told by the one that calls it. It gives up by a panic.
type model struct {
	words []api.Def
	stack []api.Value
	boxes map[int]api.Value
	next  int
	fuel  int
	used  int
	told  string
	calls map[string]int // how often a name was called, and came through
}

// gaveUp is why the model gave up.
type gaveUp struct{ e api.Errno }

func modelOf(r trial, fuel int) *model {
	m := &model{words: r.words, stack: slices.Clone(r.state.Stack), boxes: map[int]api.Value{}, next: r.state.Next, fuel: fuel, calls: map[string]int{}}
	for _, c := range r.state.Boxes {
		m.boxes[c.N] = c.V
	}
	return m
}

// whole answers the state behind all items.
func (m *model) whole(items []api.Item) (s api.State, e api.Errno) {
	defer func() {
		if what := recover(); what != nil {
			s, e = api.State{}, what.(gaveUp).e
		}
	}()
	m.enter(items, 0)
	return m.state(), api.OK
}

// state answers the values, and the boxes that they reach: those that any value of the stack or of a box so far found names, till no more come.
func (m *model) state() api.State {
	found := map[int]api.Value{}
	for {
		before := len(found)
		for _, v := range append(slices.Collect(maps.Values(found)), m.stack...) {
			numbers, _ := value.Boxes(v)
			for n := range numbers {
				found[n] = m.boxes[n]
			}
		}
		if len(found) == before {
			break
		}
	}
	s := api.State{Stack: m.stack, Next: m.next}
	for _, n := range slices.Sorted(maps.Keys(found)) {
		s.Boxes = append(s.Boxes, holds(n, found[n]))
	}
	return s
}

func (m *model) must(holds bool, e api.Errno) {
	if !holds {
		panic(gaveUp{e})
	}
}

// frame lays one where there are so many.
func (m *model) frame(frames int) int {
	m.must(frames < api.MaxFrames, api.ErrDeep)
	return frames + 1
}

func (m *model) step() {
	m.must(m.used < m.fuel, api.ErrFuel)
	m.used++
}

func (m *model) enter(items []api.Item, frames int) {
	frames = m.frame(frames)
	for _, item := range items {
		m.step()
		if p, ok := item.(api.Push); ok {
			m.push(p.V)
		} else {
			name := item.(api.Call).Name
			m.call(name, frames)
			m.calls[name]++
		}
	}
}

func (m *model) push(v api.Value) {
	m.must(len(m.stack) < api.MaxStack, api.ErrLarge)
	m.stack = append(m.stack, v)
}

// pops takes values of kinds that are told by letters, the last on top.
func (m *model) pops(kinds string) []api.Value {
	m.must(len(m.stack) >= len(kinds), api.ErrUnder)
	below := len(m.stack) - len(kinds)
	args := slices.Clone(m.stack[below:])
	m.stack = slices.Clip(m.stack[:below])
	for i := range args {
		m.must(kinds[i] == '?' || kinds[i] == letter(args[i]), api.ErrKind)
	}
	return args
}

// letter is the first of a kind's name, but X for a box.
func letter(v api.Value) byte {
	if _, ok := v.(api.Box); ok {
		return 'X'
	}
	return fmt.Sprintf("%T", v)[len("api.")]
}

func code(v api.Value) []api.Item { return v.(api.Quot).Items }

func (m *model) call(name string, frames int) {
	switch name {
	case "call":
		m.enter(code(m.pops("Q")[0]), frames)
	case "dip", "keep":
		args := m.pops("?Q")
		if name == "keep" {
			m.push(args[0])
		}
		m.enter(code(args[1]), m.frame(frames))
		m.push(args[0])
	case "if":
		args := m.pops("BQQ")
		m.enter(code(args[map[bool]int{true: 1, false: 2}[args[0] == flag(true)]]), frames)
	case "when":
		if args := m.pops("BQ"); args[0] == flag(true) {
			m.enter(code(args[1]), frames)
		}
	case "times":
		args := m.pops("IQ")
		frames = m.frame(frames)
		for range max(0, args[0].(api.Int).N) {
			m.step()
			m.enter(code(args[1]), frames)
		}
	case "each":
		args := m.pops("LQ")
		frames = m.frame(frames)
		for _, v := range args[0].(api.List).Items {
			m.step()
			m.push(v)
			m.enter(code(args[1]), frames)
		}
	case "loop":
		args := m.pops("Q")
		frames = m.frame(frames)
		for again := true; again; again = m.pops("B")[0] == flag(true) {
			m.step()
			m.enter(code(args[0]), frames)
		}
	default:
		m.plain(name, frames)
	}
}

func (m *model) plain(name string, frames int) {
	switch name {
	case "box":
		v := m.pops("?")[0]
		m.must(m.next < api.MaxBoxes, api.ErrLarge)
		m.boxes[m.next] = v
		m.push(box(m.next))
		m.next++
	case "get":
		m.push(m.boxes[m.pops("X")[0].(api.Box).N])
	case "put":
		args := m.pops("?X")
		m.boxes[args[1].(api.Box).N] = args[0]
	case ".":
		text, _ := value.Text(m.pops("?")[0])
		m.told += text + " "
		m.must(len(m.told) <= api.MaxOut, api.ErrLarge)
	default:
		m.other(name, frames)
	}
}

func (m *model) other(name string, frames int) {
	if prim.Is(name) {
		left, e := prim.Do(name, m.stack)
		m.must(e == api.OK, e)
		m.must(len(left) <= api.MaxStack, api.ErrLarge)
		m.stack = left
		return
	}
	at := slices.IndexFunc(m.words, func(d api.Def) bool { return d.Name == name })
	m.must(at >= 0, api.ErrName)
	m.enter(m.words[at].Body, frames)
}

// By chance

// maker makes code by chance.
type maker struct {
	*rand.Rand
	names []string
}

func newMaker(seed int64) *maker {
	names := append(prim.Names(), strings.Fields("aa bb cc aa bb cc dd foo call dip keep if when times each loop box get put .")...)
	return &maker{rand.New(rand.NewSource(seed)), names}
}

// wants answers letters for what a word takes: ? for any value, D for a text of digits, X for a new box; none, if it may take what is there.
func wants(name string) string {
	switch name {
	case "+", "-", "*", "/", "mod", "min", "max", "<", ">":
		return "II"
	case "neg", "abs":
		return "I"
	case "and", "or":
		return "BB"
	case "not":
		return "B"
	case "length", "reverse", "unpair":
		return "L"
	case "append":
		return "LL"
	case "nth":
		return "IL"
	case "slice":
		return "IIL"
	case "compose":
		return "QQ"
	case ">int":
		return "D"
	case "call", "loop":
		return "Q"
	case "dip", "keep", "curry":
		return "?Q"
	case "if":
		return "BQQ"
	case "when":
		return "BQ"
	case "times":
		return "IQ"
	case "each":
		return "LQ"
	case "get":
		return "X"
	case "put":
		return "?X"
	}
	return ""
}

// phrase makes a call, most often with pushes of what it takes ahead of it, or else a push.
func (k *maker) phrase(deep int) []api.Item {
	if k.Intn(5) == 0 {
		return []api.Item{push(k.value('?', deep))}
	}
	name := k.names[k.Intn(len(k.names))]
	takes := wants(name)
	takes = takes[k.Intn(4)/3*k.Intn(len(takes)+1):]
	var all []api.Item
	for i := range takes {
		kind := takes[i]
		if k.Intn(40) == 0 {
			kind = '?'
		}
		v := k.value(kind, deep)
		if name == "loop" && k.Intn(6) > 0 {
			v = quot(append(slices.Clone(code(k.value('Q', deep))), push(flag(k.Intn(8) == 0)))...)
		}
		all = append(all, push(v))
		if kind == 'X' {
			all = append(all, call("box"))
		}
	}
	return append(all, call(name))
}

// value makes a value of a kind.
func (k *maker) value(kind byte, deep int) api.Value {
	if kind == '?' || kind == 'X' {
		kind = "IIBSLQ"[k.Intn(6)]
	}
	switch kind {
	case 'I':
		return num(int64(k.Intn(6) - 1))
	case 'B':
		return flag(k.Intn(2) == 0)
	case 'S':
		return str([]string{"", "a", "é\"", "17"}[k.Intn(4)])
	case 'D':
		return str([]string{"0", "17", "-3", "x"}[k.Intn(4)])
	case 'L':
		all := values()
		for range k.Intn(4) {
			all = append(all, k.value("I?"[k.Intn(max(1, min(2, deep)))], deep-1))
		}
		return list(all...)
	}
	if deep <= 0 {
		return quot()
	}
	return quot(k.code(k.Intn(3), deep-1)...)
}

func (k *maker) code(phrases, deep int) (all []api.Item) {
	for range phrases {
		all = append(all, k.phrase(deep)...)
	}
	return all
}

func (k *maker) words() []api.Def {
	all := defs(api.Def{Name: "dd", Body: append(k.code(k.Intn(2), 1), call("dd"))})
	for _, name := range []string{"aa", "bb", "dup", "aa", "cc", "dd"} {
		if k.Intn(4) > 0 {
			all = append(all, api.Def{Name: name, Body: k.code(k.Intn(3), 2)})
		}
	}
	return all
}

// grow puts phrases behind the items of a trial with which the run still goes through, and some that need not.
func (k *maker) grow(r trial, n int) trial {
	for range n {
		for range 5 {
			next := slices.Concat(r.items, k.phrase(3))
			if _, e := modelOf(r, 300).whole(next); e == api.OK {
				r.items = next
				break
			}
		}
	}
	if k.Intn(2) == 0 {
		r.items = slices.Concat(r.items, k.code(1+k.Intn(3), 3))
	}
	return r
}

// agree holds a run against the model, and answers what the model leaves.
func agree(t *testing.T, r trial, fuel int) (*model, api.State, api.Errno) {
	t.Helper()
	m := modelOf(r, fuel)
	want, wanted := m.whole(r.items)
	s, out, used, e := interp.Run(r.words, r.items, r.state, fuel)
	told := m.told
	if wanted != api.OK {
		told = ""
	}
	if e != wanted || used != m.used || out != told || tellState(s) != tellState(want) {
		t.Fatalf("%v with fuel %d: %s, %q, used %d, error %d, want %s, %q, %d, %d", r, fuel, tellState(s), out, used, e, tellState(want), told, m.used, wanted)
	}
	return m, s, e
}

func TestByChance(t *testing.T) {
	errors, calls := map[api.Errno]int{}, map[string]int{}
	withBoxes := 0
	for seed := range int64(300) {
		k := newMaker(seed)
		state := only(1)
		if seed%10 == 0 {
			state = only(api.MaxBoxes - 1 - k.Intn(3))
		}
		for range 12 {
			r := k.grow(trial{words: k.words(), state: state}, 1+k.Intn(12))
			m, s, e := agree(t, r, 300+k.Intn(200))
			errors[e]++
			for name, n := range m.calls {
				calls[name] += n
			}
			_, _, less := agree(t, r, k.Intn(m.used+1))
			errors[less]++
			if e == api.OK {
				state = s
				stays(t, s)
			}
			if len(s.Boxes) > 0 {
				withBoxes++
			}
			if len(state.Stack) > 40 {
				state = only(1 + k.Intn(5))
			}
		}
	}
	for _, e := range []api.Errno{api.OK, api.ErrRange, api.ErrText, api.ErrName, api.ErrLarge, api.ErrUnder, api.ErrKind, api.ErrZero, api.ErrDeep, api.ErrFuel} {
		if errors[e] < 5 {
			t.Errorf("error %d came %d times", e, errors[e])
		}
	}
	for _, name := range append(prim.Names(), "aa", "bb", "cc") {
		if calls[name] < 30 {
			t.Errorf("%q came through %d times", name, calls[name])
		}
	}
	if withBoxes < 500 {
		t.Errorf("%d runs left boxes", withBoxes)
	}
}

// stays holds what follows for a state that a run left: it is sound, a memory of it has it (P2), Trim leaves it, and a run of nothing, too.
func stays(t *testing.T, s api.State) {
	t.Helper()
	trims(t, s, s)
	m, e := store.Of(s, api.MaxHeap)
	if e != api.OK || tellState(m.State()) != tellState(s) {
		t.Fatalf("a memory of %s: %d", short(tellState(s)), e)
	}
	trial{state: s}.leavesWith(t, 0, 0)
}

// P3: a run of two parts is a run of the one and a run of the other behind it, with what fuel is left; boxes that go in between change nothing.
func TestRunsOneAfterAnother(t *testing.T) {
	through, failed := 0, 0
	for seed := range int64(1500) {
		k := newMaker(seed + 10000)
		r := k.grow(trial{words: k.words(), state: only(1)}, 2+k.Intn(14))
		cut := k.Intn(len(r.items) + 1)
		fuel := 50 + k.Intn(300)
		s, out, used, e := interp.Run(r.words, r.items, r.state, fuel)
		first, told, part, e1 := interp.Run(r.words, r.items[:cut], r.state, fuel)
		if e1 == api.OK {
			var more string
			var rest int
			first, more, rest, e1 = interp.Run(r.words, r.items[cut:], first, fuel-part)
			told, part = told+more, part+rest
		}
		if e1 != api.OK {
			told = ""
			failed++
		} else {
			through++
		}
		if tellState(s) != tellState(first) || out != told || used != part || e != e1 {
			t.Fatalf("%v, cut at %d: %s, %q, %d, %d, want %s, %q, %d, %d", r, cut, tellState(first), told, part, e1, tellState(s), out, used, e)
		}
	}
	if through < 500 || failed < 100 {
		t.Errorf("%d runs went through, %d failed", through, failed)
	}
}

// Trim by chance, against the model's way to find what is reached.
func TestTrimByChance(t *testing.T) {
	sound, trimmed, refused := 0, 0, 0
	for seed := range int64(4000) {
		s := newMaker(seed).state()
		m := modelOf(trial{state: s}, 0)
		want := m.state()
		missing := slices.ContainsFunc(want.Boxes, func(c api.Content) bool { return c.V == nil || c.N >= s.Next })
		got, e := interp.Trim(s)
		if missing {
			refused++
			if e != api.ErrForm || interp.Check(s) != api.ErrForm {
				t.Fatalf("Trim(%s): %s, %d", tellState(s), tellState(got), e)
			}
			continue
		}
		trims(t, s, want)
		whole := interp.Check(s) == api.OK
		if whole != (len(want.Boxes) == len(s.Boxes)) || interp.Check(got) != api.OK {
			t.Fatalf("Check(%s): %v", tellState(s), whole)
		}
		if whole {
			sound++
		} else {
			trimmed++
		}
	}
	if sound < 300 || trimmed < 300 || refused < 300 {
		t.Errorf("%d states were sound, %d were trimmed, %d refused", sound, trimmed, refused)
	}
}

// state makes a state by chance, with boxes that may be reached or not, or not be there.
func (k *maker) state() api.State {
	s := api.State{Next: 5 + k.Intn(5)}
	number := 0
	for range k.Intn(3) + k.Intn(4) {
		number += 1 + k.Intn(20)/19
		s.Boxes = append(s.Boxes, holds(number, k.boxy(2)))
	}
	for range 1 + k.Intn(3) {
		s.Stack = append(s.Stack, k.boxy(2))
	}
	return s
}

// boxy makes a value that names boxes.
func (k *maker) boxy(deep int) api.Value {
	n := k.Intn(5)
	if deep == 0 {
		n = k.Intn(3)
	}
	switch n {
	case 0:
		return num(int64(k.Intn(5)))
	case 1, 2:
		return box(1 + k.Intn(2+k.Intn(3)))
	case 3:
		return list(k.boxy(deep-1), k.boxy(deep-1))
	}
	return quot(call("a"), push(k.boxy(deep-1)))
}
