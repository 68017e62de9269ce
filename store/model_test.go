package store_test

import (
	"maps"
	"math/rand"
	"slices"
	"strings"
	"testing"

	"quire/api"
	"quire/store"
	"quire/value"
)

// model is a memory by the chapter's words, without a heap: what is reached is found from the stack each time.
type model struct {
	stack []api.Value
	held  map[int]api.Value
	next  int
}

func newModel() *model { return &model{held: map[int]api.Value{}, next: 1} }

func (m *model) copy() *model {
	return &model{stack: slices.Clone(m.stack), held: maps.Clone(m.held), next: m.next}
}

func (m *model) reached() map[int]bool {
	met := map[int]bool{}
	var visit func(v api.Value)
	visit = func(v api.Value) {
		numbers, _ := value.Boxes(v)
		for n := range numbers {
			if !met[n] {
				met[n] = true
				visit(m.held[n])
			}
		}
	}
	for _, v := range m.stack {
		visit(v)
	}
	return met
}

func (m *model) state() api.State {
	s := api.State{Stack: m.stack, Next: m.next}
	for _, n := range slices.Sorted(maps.Keys(m.reached())) {
		s.Boxes = append(s.Boxes, holds(n, m.held[n]))
	}
	return s
}

// may answers whether a value may come.
func (m *model) may(v api.Value) bool {
	numbers, e := value.Boxes(v)
	reached := m.reached()
	for n := range numbers {
		if !reached[n] {
			return false
		}
	}
	return e == api.OK
}

func (m *model) replace(k int, list []api.Value) api.Errno {
	for _, v := range list {
		if !m.may(v) {
			return api.ErrForm
		}
	}
	switch left := len(m.stack) - k; {
	case k < 0:
		return api.ErrArg
	case left < 0:
		return api.ErrUnder
	case left+len(list) > api.MaxStack:
		return api.ErrLarge
	default:
		m.stack = append(slices.Clone(m.stack[:left]), list...)
	}
	return api.OK
}

// top answers the number of the box on top of so many values.
func (m *model) top(values int) (int, api.Errno) {
	if len(m.stack) < values {
		return 0, api.ErrUnder
	}
	b, ok := m.stack[len(m.stack)-1].(api.Box)
	if !ok {
		return 0, api.ErrKind
	}
	return b.N, api.OK
}

func (m *model) box() api.Errno {
	if len(m.stack) == 0 {
		return api.ErrUnder
	}
	m.held[m.next] = m.stack[len(m.stack)-1]
	m.stack = append(slices.Clone(m.stack[:len(m.stack)-1]), box(m.next))
	m.next++
	return api.OK
}

func (m *model) get() api.Errno {
	n, e := m.top(1)
	if e == api.OK {
		m.stack = append(slices.Clone(m.stack[:len(m.stack)-1]), m.held[n])
	}
	return e
}

func (m *model) put() api.Errno {
	n, e := m.top(2)
	if e == api.OK {
		m.held[n] = m.stack[len(m.stack)-2]
		m.stack = m.stack[:len(m.stack)-2]
	}
	return e
}

// pair is a memory and its model, which are asked the same.
type pair struct {
	words int
	mem   *store.Mem
	*model
	full *int // how often there was no room
}

func newPair(t *testing.T, words int) *pair {
	return &pair{words, newMem(t, words), newModel(), new(int)}
}

func (p *pair) copy() *pair {
	return &pair{p.words, p.mem.Copy(), p.model.copy(), p.full}
}

// agrees holds all that the memory tells of itself against the model.
func (p *pair) agrees(t *testing.T) {
	t.Helper()
	s := p.state()
	has(t, p.mem, s)
	if live := p.mem.Live(); live > cost(s) || live > p.words {
		t.Fatalf("Live: %d of %d words, the cost is %d", live, p.words, cost(s))
	}
}

// comes asks both for something that needs so many words: ErrFull is right only where there is no room for them, and changes nothing.
func (p *pair) comes(t *testing.T, what string, need int, ask func() api.Errno, model func(*model) api.Errno) {
	t.Helper()
	live := p.mem.Live()
	next := p.model.copy()
	e, want := ask(), model(next)
	if e == api.ErrFull && want == api.OK {
		*p.full++
		if live+need <= p.words || p.mem.Live() != live {
			t.Fatalf("%s: ErrFull, though %d words were live of %d, and %d come; live behind it: %d", what, live, p.words, need, p.mem.Live())
		}
		return
	}
	is(t, what, e, want)
	p.model = next
}

func (p *pair) replace(t *testing.T, k int, list []api.Value) {
	t.Helper()
	need := 0
	for _, v := range list {
		n, _ := store.Cost(v)
		need += n
	}
	p.comes(t, "Replace", need, func() api.Errno { return p.mem.Replace(k, list) }, func(m *model) api.Errno { return m.replace(k, list) })
}

func (p *pair) push(t *testing.T, v api.Value) {
	t.Helper()
	need, _ := store.Cost(v)
	p.comes(t, "Push", need, func() api.Errno { return p.mem.Push(v) }, func(m *model) api.Errno { return m.replace(0, values(v)) })
}

func (p *pair) box(t *testing.T) {
	t.Helper()
	p.comes(t, "Box", 3, p.mem.Box, (*model).box)
}

func (p *pair) get(t *testing.T) {
	t.Helper()
	is(t, "Get", p.mem.Get(), p.model.get())
}

func (p *pair) put(t *testing.T) {
	t.Helper()
	is(t, "Put", p.mem.Put(), p.model.put())
}

func (p *pair) pop(t *testing.T) {
	t.Helper()
	var want api.Value
	e := api.ErrUnder
	if n := len(p.stack); n > 0 {
		want, e = p.stack[n-1], api.OK
		p.stack = p.stack[:n-1]
	}
	if v, got := p.mem.Pop(); tell(v) != tell(want) || got != e {
		t.Fatalf("Pop: %s, %d, want %s, %d", tell(v), got, tell(want), e)
	}
}

// maker makes values by chance, which name boxes by chance.
type maker struct{ *rand.Rand }

func (r maker) value(p *pair, deep int) api.Value {
	switch r.Intn(9) {
	case 0, 1:
		return num(r.Int63()>>r.Intn(62)&api.MaxInt - r.Int63()>>r.Intn(62)&api.MaxInt)
	case 2:
		return flag(r.Intn(2) == 0)
	case 3:
		return str(strings.Repeat([]string{"a", "é", "語", "\x00"}[r.Intn(4)], r.Intn(12)))
	case 4, 5:
		return r.box(p)
	}
	if deep == 0 {
		return list()
	}
	if r.Intn(2) == 0 {
		var l []api.Value
		for range r.Intn(4) {
			l = append(l, r.value(p, deep-1))
		}
		return list(l...)
	}
	var l []api.Item
	for range r.Intn(4) {
		if r.Intn(3) == 0 {
			l = append(l, call([]string{"dup", "語語語", "put"}[r.Intn(3)]))
			continue
		}
		l = append(l, push(r.value(p, deep-1)))
	}
	return quot(l...)
}

// box is a box that is reached, or, seldom, one that need not be.
func (r maker) box(p *pair) api.Value {
	reached := slices.Sorted(maps.Keys(p.reached()))
	if r.Intn(30) == 0 {
		return box(r.Intn(p.next + 2))
	}
	if len(reached) == 0 {
		return num(3)
	}
	return box(reached[r.Intn(len(reached))])
}

// step asks the memory and the model one thing by chance.
func (r maker) step(t *testing.T, p *pair) {
	t.Helper()
	switch r.Intn(12) {
	case 0, 1, 2:
		p.push(t, r.value(p, 3))
	case 3:
		p.push(t, r.box(p))
	case 4:
		var l []api.Value
		for range r.Intn(4) {
			l = append(l, r.value(p, 2))
		}
		p.replace(t, r.Intn(5)-r.Intn(20)/19, l)
	case 5:
		p.pop(t)
	case 6, 7:
		p.box(t)
	case 8:
		p.get(t)
	case 9, 10:
		p.push(t, r.box(p))
		p.put(t)
	case 11:
		if len(p.stack) > 12 {
			p.replace(t, r.Intn(len(p.stack)), nil)
		}
	}
}

// collect collects by chance, once in so many times.
func (r maker) collect(p *pair, every int) {
	switch r.Intn(2 * every) {
	case 0:
		p.mem.Minor()
	case 1:
		p.mem.Major()
	}
}

func TestByChance(t *testing.T) {
	r := maker{rand.New(rand.NewSource(11))}
	for _, every := range []int{1, 5, 1000} {
		for _, words := range []int{1, 3, 6, 10, 20, 40, 80, 200, 1000} {
			full := 0
			for range 3 {
				p := newPair(t, words)
				for range 600 {
					r.step(t, p)
					r.collect(p, every)
					p.agrees(t)
				}
				full += *p.full
			}
			if full < 10 && words <= 40 {
				t.Errorf("a memory of %d words was full %d times", words, full)
			}
		}
	}
}

// Copies, and memories of the state, made on the way go ways of their own.
func TestCopiesByChance(t *testing.T) {
	r := maker{rand.New(rand.NewSource(12))}
	for range 8 {
		pairs := []*pair{newPair(t, 20+r.Intn(150))}
		for range 800 {
			p := pairs[r.Intn(len(pairs))]
			r.step(t, p)
			r.collect(p, 10)
			switch r.Intn(50) {
			case 0:
				pairs = append(pairs, p.copy())
			case 1:
				c := p.copy()
				s := p.mem.State()
				c.words = max(1, cost(s)+r.Intn(30))
				var e api.Errno
				c.mem, e = store.Of(s, c.words)
				is(t, "Of", e, api.OK)
				pairs = append(pairs, c)
			}
			pairs = pairs[max(0, len(pairs)-4):]
			for _, p := range pairs {
				p.agrees(t)
			}
		}
	}
}

// All short ways from the beginning, in memories in which most calls are at an edge.
func TestAllShortWays(t *testing.T) {
	steps := []func(p *pair){
		func(p *pair) { p.push(t, num(1)) },
		func(p *pair) { p.push(t, list(box(1))) },
		func(p *pair) { p.push(t, box(p.next-1)) },
		func(p *pair) { p.replace(t, 1, values(str("a"))) },
		func(p *pair) { p.replace(t, 2, values(box(1), quot(push(box(1)), call("x")))) },
		func(p *pair) { p.pop(t) },
		func(p *pair) { p.box(t) },
		func(p *pair) { p.get(t) },
		func(p *pair) { p.put(t) },
		func(p *pair) { p.mem.Minor() },
		func(p *pair) { p.mem.Major() },
	}
	var from func(p *pair, left int)
	from = func(p *pair, left int) {
		p.agrees(t)
		if left == 0 {
			return
		}
		for _, step := range steps {
			next := p.copy()
			step(next)
			from(next, left-1)
		}
	}
	for _, words := range []int{1, 3, 4, 6, 8, 12} {
		from(newPair(t, words), 4)
	}
	from(newPair(t, 9), 5)
}
