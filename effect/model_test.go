package effect_test

import (
	"math/rand"
	"slices"
	"strings"
	"testing"

	"quire/api"
	"quire/effect"
	"quire/parse"
)

// model infers by words alone: a value on its list is the source of a quotation that is known, or unknown.
type model struct {
	shapes map[string]string // by name the effect, as x y -- y x
	gone   int
}

const unknown = "?"

// at is where an inference is: what was taken from below, and what is on the list.
type at struct {
	in   int
	list []string
}

func newModel(known []api.Known) *model {
	m := &model{shapes: map[string]string{}}
	for _, w := range slices.Backward(known) {
		m.shapes[w.Name] = strings.Repeat("a ", w.Effect.In) + "-- " + strings.Repeat("b ", w.Effect.Out)
	}
	for _, s := range []string{"dup x -- x x", "drop x --", "swap x y -- y x", "over x y -- x y x", "rot x y z -- y z x", "nip x y -- y", "tuck x y -- y x y", "+ a b -- c", "not a -- b", "put a b --", "unpair a -- b c", "slice a b c -- d"} {
		name, shape, _ := strings.Cut(s, " ")
		m.shapes[name] = shape
	}
	return m
}

func (s *at) take() string {
	if len(s.list) == 0 {
		s.in++
		return unknown
	}
	top := s.list[len(s.list)-1]
	s.list = slices.Clone(s.list[:len(s.list)-1])
	return top
}

func (s *at) leave(more ...string) { s.list = slices.Concat(s.list, more) }

// whole answers the effect of a source.
func (m *model) whole(source string) (api.Effect, api.Errno) {
	end, e := m.run(source, at{})
	x := api.Effect{In: end.in, Out: len(end.list)}
	if e == api.OK && max(x.In, x.Out) > api.MaxArgs {
		e = api.ErrLarge
	}
	if e != api.OK {
		return api.Effect{}, e
	}
	return x, api.OK
}

func (m *model) run(source string, s at) (at, api.Errno) {
	list, _, _ := parse.Items(source)
	for _, item := range list {
		var e api.Errno
		if s, e = m.step(item, s); e != api.OK {
			return at{}, e
		}
	}
	return s, api.OK
}

func (m *model) step(item api.Item, s at) (at, api.Errno) {
	word, _ := parse.Text(items(item))
	_, isCall := item.(api.Call)
	shape, plain := m.shapes[word]
	if isCall && !plain && !slices.Contains(codeWords(), word) {
		return at{}, api.ErrName
	}
	if m.gone++; m.gone > api.MaxItems {
		return at{}, api.ErrLarge
	}
	switch {
	case strings.HasPrefix(word, "["):
		s.leave(word[2 : len(word)-1])
		return s, api.OK
	case !isCall:
		s.leave(unknown)
		return s, api.OK
	case plain:
		return moveBy(shape, s), api.OK
	}
	return m.code(word, s)
}

// moveBy leaves what the letters of a shape stand for. A letter that was not taken stands for something unknown.
func moveBy(shape string, s at) at {
	in, out, _ := strings.Cut(shape, "--")
	bound := map[string]string{}
	for _, letter := range slices.Backward(strings.Fields(in)) {
		bound[letter] = s.take()
	}
	for _, letter := range strings.Fields(out) {
		v, ok := bound[letter]
		if !ok {
			v = unknown
		}
		s.leave(v)
	}
	return s
}

func (m *model) code(word string, s at) (at, api.Errno) {
	q := s.take()
	if q == unknown {
		return at{}, api.ErrEffect
	}
	switch word {
	case "call":
		return m.run(q, s)
	case "dip", "keep":
		x := s.take()
		if word == "keep" {
			s.leave(x)
		}
		s, e := m.run(q, s)
		if e == api.OK {
			s.leave(x)
		}
		return s, e
	case "if":
		return m.choose(s.take(), q, s)
	case "loop":
		return m.often(q, s, -1, 0)
	case "each":
		s.take()
		return m.often(q, s, 1, -1)
	}
	s.take()
	return m.often(q, s, 0, 0)
}

func (m *model) choose(first, second string, s at) (at, api.Errno) {
	if first == unknown {
		return at{}, api.ErrEffect
	}
	s.take()
	a, e := m.run(first, at{})
	if e != api.OK {
		return at{}, e
	}
	b, e := m.run(second, at{})
	if e != api.OK {
		return at{}, e
	}
	more := len(a.list) - a.in
	if more != len(b.list)-b.in {
		return at{}, api.ErrEffect
	}
	n := max(a.in, b.in)
	return counted(s, n, n+more), api.OK
}

// often is a quotation that takes so many more than it leaves, of which so many more than its In are taken and left.
func (m *model) often(q string, s at, more, beside int) (at, api.Errno) {
	own, e := m.run(q, at{})
	if e != api.OK {
		return at{}, e
	}
	if own.in-len(own.list) != more {
		return at{}, api.ErrEffect
	}
	return counted(s, own.in+beside, own.in+beside), api.OK
}

func counted(s at, in, out int) at {
	return moveBy(strings.Repeat("a ", in)+"--"+strings.Repeat(" b", out), s)
}

// some answers words for the model, with doubles and a primitive's name among them.
func some() []api.Known {
	return []api.Known{known("two", 0, 2), known("eat3", 3, 0), known("two", 1, 1), known("dup", 5, 5), known("all", 16, 16), known("more", 0, 16), known("none", 0, 0)}
}

// agrees holds Of against the model, and answers what Of does.
func agrees(t *testing.T, list []api.Item) (api.Effect, api.Errno) {
	t.Helper()
	source, e := parse.Text(list)
	if e != api.OK {
		t.Fatalf("Text: %d", e)
	}
	want, f := newModel(some()).whole(source)
	x, e := effect.Of(list, some())
	if x != want || e != f {
		t.Fatalf("Of(%s): %v, %d, want %v, %d", source, x, e, want, f)
	}
	return x, e
}

// All short sources of some items.
func TestAllShortSources(t *testing.T) {
	var few []api.Item
	for _, s := range []string{"1", "[ ]", "[ 1 ]", "[ drop ]", "[ dup ]", "[ [ 1 ] ]", "[ call ]", "[ swap drop ]", "dup", "drop", "swap", "rot", "tuck", "+", "two", "call", "dip", "keep", "if", "when", "loop", "each", "foo"} {
		few = append(few, read(t, s)...)
	}
	counts := map[api.Errno]int{}
	var all func(list []api.Item, left int)
	all = func(list []api.Item, left int) {
		_, e := agrees(t, list)
		counts[e]++
		for _, item := range few {
			if left > 0 {
				all(append(list, item), left-1)
			}
		}
	}
	all(nil, 3)
	for i := range few {
		for k := range few {
			all(append(read(t, "[ 1 ] [ drop ]"), few[i], few[k]), 1)
		}
	}
	if counts[api.OK] < 3000 || counts[api.ErrName] < 500 || counts[api.ErrEffect] < 3000 {
		t.Errorf("few of a kind: %v", counts)
	}
}

type maker struct{ *rand.Rand }

// source answers items by chance, most of which have an effect: ahead of a word stands often what it takes.
func (m maker) source(deep, long int) []api.Item {
	var list []api.Item
	for range m.Intn(long + 1) {
		list = append(list, m.some(deep)...)
	}
	return list
}

func (m maker) some(deep int) []api.Item {
	name := []string{"dup", "drop", "swap", "over", "rot", "nip", "tuck", "+", "not", "put", "unpair", "slice", "two", "eat3", "call", "dip", "keep", "if", "when", "times", "each", "loop"}[m.Intn(22)]
	if m.Intn(60) == 0 {
		name = []string{"foo", "all", "more"}[m.Intn(3)]
	}
	if m.Intn(4) == 0 {
		return items(m.pushed(deep))
	}
	if !slices.Contains(codeWords(), name) || m.Intn(20) == 0 {
		return items(call(name))
	}
	q := m.source(deep-1, 3)
	switch {
	case deep == 0:
		return nil
	case name == "if" && m.Intn(2) == 0:
		return items(push(quot(q...)), push(quot(append(slices.Clone(q), m.balanced()...)...)), call(name))
	case name == "if":
		return items(push(quot(q...)), push(quot(append(m.balanced(), q...)...)), call(name))
	case name == "when" || name == "times":
		q = append(q, m.balanced()...)
	case name == "loop":
		q = append(q, push(num(1)))
	case name == "each":
		q = append(q, call("drop"))
	}
	return items(push(quot(q...)), call(name))
}

func (m maker) pushed(deep int) api.Item {
	if deep > 0 && m.Intn(3) > 0 {
		return push(quot(m.source(deep-1, 3)...))
	}
	return push([]api.Value{num(1), api.Bool{B: true}, list(), list(quot()), api.Str{S: "a"}}[m.Intn(5)])
}

// balanced answers items that leave as many as they take.
func (m maker) balanced() []api.Item {
	return [][]api.Item{nil, items(call("swap")), items(call("not")), items(call("dup"), call("drop")), items(call("rot")), items(push(num(1)), call("drop"))}[m.Intn(6)]
}

func TestSourcesByChance(t *testing.T) {
	m := maker{rand.New(rand.NewSource(21))}
	counts := map[api.Errno]int{}
	for range 60000 {
		x, e := agrees(t, m.source(m.Intn(4), 1+m.Intn(8)))
		counts[e]++
		if e == api.OK && x.In > 0 && x.Out > 0 {
			counts[-1]++
		}
	}
	if counts[api.OK] < 10000 || counts[-1] < 5000 || counts[api.ErrName] < 300 || counts[api.ErrEffect] < 5000 || counts[api.ErrLarge] < 300 {
		t.Errorf("few of a kind: %v", counts)
	}
}

// Sources around the bound of items that are gone through.
func TestLongSourcesByChance(t *testing.T) {
	m := maker{rand.New(rand.NewSource(22))}
	counts := map[api.Errno]int{}
	for range 500 {
		_, e := agrees(t, append(read(t, through(t, api.MaxItems-m.Intn(12))), m.source(2, 6)...))
		counts[e]++
	}
	if counts[api.OK] < 20 || counts[api.ErrLarge] < 100 {
		t.Errorf("few of a kind: %v", counts)
	}
}
