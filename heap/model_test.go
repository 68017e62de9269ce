package heap_test

import (
	"math"
	"math/rand"
	"slices"
	"testing"

	"quire/api"
	"quire/heap"
)

// thing is an object of the model, which never moves.
type thing struct {
	kind   int
	raw    bool
	fields []slot
}

// slot names a thing, or is a number.
type slot struct {
	to *thing
	n  uint64
}

// model is a heap by the chapter's words: what is reached is found from the roots each time.
type model struct {
	capacity int
	roots    []slot
}

func (m *model) things() []*thing {
	var all []*thing
	number := map[*thing]int{}
	meet := func(s slot) {
		if _, ok := number[s.to]; s.to != nil && !ok {
			number[s.to] = len(all)
			all = append(all, s.to)
		}
	}
	for _, s := range m.roots {
		meet(s)
	}
	for i := 0; i < len(all); i++ {
		for _, s := range all[i].fields {
			meet(s)
		}
	}
	return all
}

func (m *model) live() int {
	words := 0
	for _, o := range m.things() {
		words += len(o.fields) + 1
	}
	return words
}

func told(slots []slot, number map[*thing]int) []api.Field {
	var fields []api.Field
	for _, s := range slots {
		if s.to != nil {
			fields = append(fields, ref(uint64(number[s.to])))
		} else {
			fields = append(fields, api.Field{N: s.n})
		}
	}
	return fields
}

func (m *model) walk() ([]api.Field, []api.Object) {
	all := m.things()
	number := map[*thing]int{}
	for i, o := range all {
		number[o] = i
	}
	var objects []api.Object
	for _, o := range all {
		objects = append(objects, api.Object{Kind: o.kind, Raw: o.raw, Fields: told(o.fields, number)})
	}
	return told(m.roots, number), objects
}

func (m *model) copy() *model {
	twins := map[*thing]*thing{}
	for _, o := range m.things() {
		twins[o] = &thing{kind: o.kind, raw: o.raw}
	}
	twin := func(slots []slot) []slot {
		c := slices.Clone(slots)
		for i := range c {
			if c[i].to != nil {
				c[i].to = twins[c[i].to]
			}
		}
		return c
	}
	for o, c := range twins {
		c.fields = twin(o.fields)
	}
	return &model{capacity: m.capacity, roots: twin(m.roots)}
}

func (m *model) has(i int) bool { return i >= 0 && i < len(m.roots) }

func (m *model) alloc(kind, n int, raw bool) api.Errno {
	if kind < 0 || kind > 255 || n < 0 || n > api.MaxFields {
		return api.ErrArg
	}
	if m.live()+n+1 > m.capacity {
		return api.ErrFull
	}
	m.roots = append(m.roots, slot{to: &thing{kind: kind, raw: raw, fields: make([]slot, n)}})
	return api.OK
}

func (m *model) dup(i int) api.Errno {
	if !m.has(i) {
		return api.ErrRange
	}
	m.roots = append(m.roots, m.roots[i])
	return api.OK
}

func (m *model) slide(k, j int) api.Errno {
	if k < 0 || j < 0 {
		return api.ErrArg
	}
	if k > len(m.roots) || j > len(m.roots) || k+j > len(m.roots) {
		return api.ErrRange
	}
	top := m.roots[len(m.roots)-j:]
	m.roots = append(slices.Clone(m.roots[:len(m.roots)-j-k]), top...)
	return api.OK
}

// field is the thing that root i names, if it has a field f.
func (m *model) field(i, f int) (*thing, api.Errno) {
	if !m.has(i) {
		return nil, api.ErrRange
	}
	o := m.roots[i].to
	if o == nil {
		return nil, api.ErrKind
	}
	if f < 0 || f >= len(o.fields) {
		return nil, api.ErrRange
	}
	return o, api.OK
}

func (m *model) get(i, f int) api.Errno {
	o, e := m.field(i, f)
	if e != api.OK {
		return e
	}
	m.roots = append(m.roots, o.fields[f])
	return api.OK
}

func (m *model) set(i, f, j int) api.Errno {
	if !m.has(j) {
		return api.ErrRange
	}
	o, e := m.field(i, f)
	if e != api.OK {
		return e
	}
	if o.raw && m.roots[j].to != nil {
		return api.ErrKind
	}
	o.fields[f] = m.roots[j]
	return api.OK
}

func sameWalk(r []api.Field, o []api.Object, roots []api.Field, objects []api.Object) bool {
	return slices.Equal(r, roots) && slices.EqualFunc(o, objects, func(a, b api.Object) bool {
		return a.Kind == b.Kind && a.Raw == b.Raw && slices.Equal(a.Fields, b.Fields)
	})
}

// pair is a heap and its model, which are asked the same.
type pair struct {
	h *heap.Heap
	m *model
}

func newPair(t *testing.T, capacity int) pair {
	return pair{newHeap(t, capacity), &model{capacity: capacity}}
}

func (p pair) copy() pair { return pair{p.h.Copy(), p.m.copy()} }

// agrees holds all that the heap tells of itself against the model.
func (p pair) agrees(t *testing.T) {
	t.Helper()
	roots, objects := p.m.walk()
	walks(t, p.h, roots, objects...)
	live(t, p.h, p.m.live())
	if used := p.h.Used(); used < p.m.live() || used > p.m.capacity {
		t.Fatalf("Used: %d of %d, %d are live", used, p.m.capacity, p.m.live())
	}
}

// answers holds what the heap tells of its roots i and j against the model.
func (p pair) answers(t *testing.T, i, j int) {
	t.Helper()
	var word uint64
	var kind, n int
	var raw, same bool
	ofWord, ofInfo, ofSame := api.ErrRange, api.ErrRange, api.ErrRange
	if p.m.has(i) {
		ofWord, ofInfo = api.OK, api.ErrKind
		word = p.m.roots[i].n
		if o := p.m.roots[i].to; o != nil {
			kind, n, raw = o.kind, len(o.fields), o.raw
			ofWord, ofInfo = api.ErrKind, api.OK
		}
		if p.m.has(j) {
			same, ofSame = p.m.roots[i] == p.m.roots[j], api.OK
		}
	}
	if w, e := p.h.Word(i); w != word || e != ofWord {
		t.Fatalf("Word(%d): %d, %d, want %d, %d", i, w, e, word, ofWord)
	}
	if k, f, r, e := p.h.Info(i); k != kind || f != n || r != raw || e != ofInfo {
		t.Fatalf("Info(%d): %d, %d, %t, %d, want %d, %d, %t, %d", i, k, f, r, e, kind, n, raw, ofInfo)
	}
	if s, e := p.h.Same(i, j); s != same || e != ofSame {
		t.Fatalf("Same(%d, %d): %t, %d, want %t, %d", i, j, s, e, same, ofSame)
	}
}

// refused asks that a call that answers an error has changed nothing, the room included.
func (p pair) refused(t *testing.T, used int, e api.Errno) {
	t.Helper()
	if e != api.OK && p.h.Used() != used {
		t.Fatalf("Used: %d behind the error %d, %d ahead of it", p.h.Used(), e, used)
	}
}

// root is a root by chance, or, seldom, none.
func (p pair) root(r *rand.Rand) int {
	if r.Intn(40) == 0 {
		return []int{-1, len(p.m.roots), math.MaxInt, math.MinInt}[r.Intn(4)]
	}
	return r.Intn(len(p.m.roots) + 1)
}

// fields is how many fields by chance: few mostly.
func (p pair) fields(r *rand.Rand) int {
	switch r.Intn(20) {
	case 0:
		return r.Intn(p.m.capacity + 2)
	case 1:
		return []int{-1, api.MaxFields, api.MaxFields + 1, math.MaxInt}[r.Intn(4)]
	}
	return r.Intn(min(5, p.m.capacity))
}

// slides is how many roots go, and how many stay above them, by chance: many go only where there are many.
func (p pair) slides(r *rand.Rand) (int, int) {
	if r.Intn(20) == 0 {
		return r.Intn(6) - 2, r.Intn(6) - 2
	}
	if len(p.m.roots) > 40 {
		return 30, r.Intn(10)
	}
	m := r.Intn(len(p.m.roots) + 1)
	return min(len(p.m.roots)-m, r.Intn(4)), m
}

// step asks the heap and the model one thing by chance.
func (p pair) step(t *testing.T, r *rand.Rand) {
	t.Helper()
	used := p.h.Used()
	var got, want api.Errno
	switch r.Intn(12) {
	case 0, 1, 2:
		kind, n, raw := r.Intn(258)-1, p.fields(r), r.Intn(5) == 0
		got, want = p.h.Alloc(kind, n, raw), p.m.alloc(kind, n, raw)
	case 3:
		n := r.Uint64() >> r.Intn(64)
		got = p.h.Num(n)
		p.m.roots = append(p.m.roots, slot{n: n})
	case 4:
		i := p.root(r)
		got, want = p.h.Dup(i), p.m.dup(i)
	case 5, 6:
		k, m := p.slides(r)
		got, want = p.h.Slide(k, m), p.m.slide(k, m)
	case 7:
		i, f := p.root(r), r.Intn(5)-1
		got, want = p.h.Get(i, f), p.m.get(i, f)
	case 8, 9, 10:
		i, f, j := p.root(r), r.Intn(5)-1, p.root(r)
		got, want = p.h.Set(i, f, j), p.m.set(i, f, j)
	case 11:
		p.answers(t, p.root(r), p.root(r))
	}
	is(t, "a call", got, want)
	p.refused(t, used, got)
}

// collect collects by chance, once in so many times.
func (p pair) collect(t *testing.T, r *rand.Rand, every int) {
	t.Helper()
	switch r.Intn(2 * every) {
	case 0:
		used := p.h.Used()
		p.h.Minor()
		if p.h.Used() > used {
			t.Fatalf("Minor: %d words of %d", p.h.Used(), used)
		}
	case 1:
		p.h.Major()
		if p.h.Used() != p.m.live() {
			t.Fatalf("Major: %d words, %d are live", p.h.Used(), p.m.live())
		}
	}
}

func TestByChance(t *testing.T) {
	r := rand.New(rand.NewSource(10))
	for _, every := range []int{1, 3, 20, 1000} {
		for _, capacity := range []int{1, 2, 3, 5, 8, 13, 20, 40, 64, 100, 300, 1000} {
			for range 3 {
				p := newPair(t, capacity)
				for range 1500 {
					p.step(t, r)
					p.collect(t, r, every)
					p.agrees(t)
				}
			}
		}
	}
}

// does asks the heap and the model the same, and wants the same of both.
func (p pair) does(t *testing.T, what string, got, want api.Errno) bool {
	t.Helper()
	is(t, what, got, want)
	return got == api.OK
}

func (p pair) gets(t *testing.T, i, f int) {
	t.Helper()
	p.does(t, "Get", p.h.Get(i, f), p.m.get(i, f))
}

func (p pair) sets(t *testing.T, i, f, j int) {
	t.Helper()
	p.does(t, "Set", p.h.Set(i, f, j), p.m.set(i, f, j))
}

// grow puts an object ahead of the chain at field f of root 0, which is the only root, or lets the chain go where there is no room.
func (p pair) grow(t *testing.T, f, n int) {
	t.Helper()
	used := p.h.Used()
	got, want := p.h.Alloc(n, n, false), p.m.alloc(n, n, false)
	p.refused(t, used, got)
	if !p.does(t, "Alloc", got, want) {
		num(t, p.h, 0)
		p.m.roots = append(p.m.roots, slot{})
		p.sets(t, 0, f, 1)
		return
	}
	p.gets(t, 0, f)
	p.sets(t, 1, 0, 2)
	p.sets(t, 0, f, 1)
}

// Objects live on where only fields name them, old and young through one another, in a heap that is full often.
func TestGraphsByChance(t *testing.T) {
	r := rand.New(rand.NewSource(11))
	for range 20 {
		capacity := 30 + r.Intn(300)
		chains := 1 + r.Intn(8)
		every := 1 + r.Intn(200)
		p := newPair(t, capacity)
		p.does(t, "Alloc", p.h.Alloc(1, chains, false), p.m.alloc(1, chains, false))
		full := 0
		for range 2000 {
			f, g := r.Intn(chains), r.Intn(chains)
			switch r.Intn(6) {
			case 0: // the chain begins with its second object
				p.gets(t, 0, f)
				p.gets(t, 1, 0)
				p.sets(t, 0, f, len(p.m.roots)-1)
			case 1: // one chain's first object names another's
				p.gets(t, 0, f)
				p.gets(t, 0, g)
				p.sets(t, 1, 1, 2)
			default:
				p.grow(t, f, 1+r.Intn(5))
			}
			if p.m.live() > capacity-6 {
				full++
			}
			p.does(t, "Slide", p.h.Slide(len(p.m.roots)-1, 0), p.m.slide(len(p.m.roots)-1, 0))
			p.collect(t, r, every)
			p.agrees(t)
		}
		if full < 5 {
			t.Errorf("a heap of %d words was full %d times", capacity, full)
		}
	}
}

// Copies made on the way go ways of their own.
func TestCopiesByChance(t *testing.T) {
	r := rand.New(rand.NewSource(12))
	for range 10 {
		pairs := []pair{newPair(t, 10+r.Intn(150))}
		for range 2000 {
			p := pairs[r.Intn(len(pairs))]
			p.step(t, r)
			p.collect(t, r, 30)
			if r.Intn(50) == 0 {
				c := p.copy()
				if c.h.Used() > c.m.capacity {
					t.Fatalf("Used of a copy: %d", c.h.Used())
				}
				pairs = append(pairs, c)
				pairs = pairs[max(0, len(pairs)-5):]
			}
			for _, p := range pairs {
				p.agrees(t)
			}
		}
	}
}

// All short ways from the beginning, in heaps in which most calls are at an edge.
func TestAllShortWays(t *testing.T) {
	steps := []func(p pair) (got, want api.Errno){
		func(p pair) (got, want api.Errno) { return p.h.Alloc(1, 1, false), p.m.alloc(1, 1, false) },
		func(p pair) (got, want api.Errno) { return p.h.Alloc(2, 0, true), p.m.alloc(2, 0, true) },
		func(p pair) (got, want api.Errno) { return p.h.Dup(0), p.m.dup(0) },
		func(p pair) (got, want api.Errno) { return p.h.Slide(1, 0), p.m.slide(1, 0) },
		func(p pair) (got, want api.Errno) { return p.h.Slide(1, 1), p.m.slide(1, 1) },
		func(p pair) (got, want api.Errno) { return p.h.Get(0, 0), p.m.get(0, 0) },
		func(p pair) (got, want api.Errno) { return p.h.Set(0, 0, 1), p.m.set(0, 0, 1) },
		func(p pair) (got, want api.Errno) { return p.h.Set(1, 0, 0), p.m.set(1, 0, 0) },
		func(p pair) (got, want api.Errno) { p.h.Minor(); return },
		func(p pair) (got, want api.Errno) { p.h.Major(); return },
	}
	var from func(p pair, left int)
	from = func(p pair, left int) {
		p.agrees(t)
		if left == 0 {
			return
		}
		for i, step := range steps {
			next := p.copy()
			used := next.h.Used()
			got, want := step(next)
			if got != want {
				t.Fatalf("step %d: %d, want %d", i, got, want)
			}
			next.refused(t, used, got)
			from(next, left-1)
		}
	}
	for capacity := 1; capacity <= 6; capacity++ {
		from(newPair(t, capacity), 4)
	}
	from(newPair(t, 5), 5)
}
