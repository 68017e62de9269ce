package dict_test

import (
	"fmt"
	"math/rand"
	"slices"
	"strings"
	"testing"

	"quire/api"
	"quire/dict"
	"quire/effect"
	"quire/prim"
	"quire/value"
)

// A model of dictionaries that goes by texts and maps: vocabularies and words stand by name, what a body calls is read from its text, and all is asked anew each time.

// model is a dictionary.
type model struct {
	uses  map[string][]string
	words map[string]api.Word
}

func empty() model { return model{map[string][]string{}, map[string]api.Word{}} }

func (m model) clone() model {
	c := empty()
	for name, list := range m.uses {
		c.uses[name] = slices.Clone(list)
	}
	for name, w := range m.words {
		c.words[name] = w
	}
	return c
}

func sortedKeys[V any](m map[string]V) (keys []string) {
	for key := range m {
		keys = append(keys, key)
	}
	slices.Sort(keys)
	return keys
}

func (m model) dict() (d api.Dict) {
	for _, name := range sortedKeys(m.uses) {
		d.Vocabs = append(d.Vocabs, uses(name, m.uses[name]...))
	}
	for _, name := range sortedKeys(m.words) {
		d.Words = append(d.Words, m.words[name])
	}
	return d
}

// calls answers what a body calls, from its text. No string stands in the bodies of the model.
func calls(body []api.Item) (names []string) {
	text, _ := value.Text(quot(body...))
	for _, part := range strings.Fields(text) {
		if !strings.Contains(" [ ] { } t f ", " "+part+" ") && !strings.Contains("-0123456789", part[:1]) || part == "-" {
			names = append(names, part)
		}
	}
	return names
}

// far answers whether one vocabulary uses another, by others, too.
func (m model) far(from, to string, deep int) bool {
	if deep == 0 {
		return false
	}
	for _, name := range m.uses[from] {
		if name == to || m.far(name, to, deep-1) {
			return true
		}
	}
	return false
}

func (m model) seen(vocab, name string) bool {
	w, ok := m.words[name]
	return ok && (w.Vocab == vocab || slices.Contains(m.uses[vocab], w.Vocab))
}

// fault answers why a word does not fit.
func (m model) fault(w api.Word) api.Errno {
	for _, name := range calls(w.Def.Body) {
		if !prim.Is(name) && !m.seen(w.Vocab, name) {
			return api.ErrName
		}
	}
	var known []api.Known
	for name, other := range m.words {
		known = append(known, api.Known{Name: name, Effect: other.Def.Effect})
	}
	x, e := effect.Of(w.Def.Body, known)
	if e == api.OK && (x.In != w.Def.Effect.In || x.Out != w.Def.Effect.Out) {
		return api.ErrEffect
	}
	return e
}

func (m model) vocab(name string, list []string) api.Errno {
	if name == "1" {
		return api.ErrName
	}
	if _, ok := m.uses[name]; ok {
		return api.ErrTwice
	}
	for i, x := range list {
		if slices.Index(list, x) != i {
			return api.ErrTwice
		}
	}
	for _, x := range list {
		if _, ok := m.uses[x]; !ok {
			return api.ErrNone
		}
	}
	m.uses[name] = slices.Clone(list)
	return api.OK
}

func (m model) use(name, more string) api.Errno {
	_, there := m.uses[name]
	_, known := m.uses[more]
	if !there || !known {
		return api.ErrNone
	}
	if slices.Contains(m.uses[name], more) {
		return api.ErrTwice
	}
	if name == more || m.far(more, name, len(m.uses)) {
		return api.ErrCycle
	}
	m.uses[name] = append(m.uses[name], more)
	return api.OK
}

func (m model) define(vocab string, def api.Def) api.Errno {
	if strings.Contains(fmt.Sprintf("%#v", def.Body), "api.Box") {
		return api.ErrForm
	}
	if _, ok := m.uses[vocab]; !ok {
		return api.ErrNone
	}
	if def.Name == "dup" || def.Name == "1" || def.Name == "f" {
		return api.ErrName
	}
	if old, ok := m.words[def.Name]; ok && old.Vocab != vocab {
		return api.ErrTwice
	}
	m.words[def.Name] = api.Word{Vocab: vocab, Def: def}
	if e := m.fault(m.words[def.Name]); e != api.OK {
		return e
	}
	for name, w := range m.words {
		if name != def.Name && m.fault(w) != api.OK {
			return api.ErrEffect
		}
	}
	return api.OK
}

func (m model) forget(name string) api.Errno {
	if _, ok := m.words[name]; !ok {
		return api.ErrNone
	}
	for other, w := range m.words {
		if other != name && slices.Contains(calls(w.Def.Body), name) {
			return api.ErrUsed
		}
	}
	delete(m.words, name)
	return api.OK
}

// hang answers what hangs on a name: rounds go on till none comes any more.
func (m model) hang(name string) []string {
	on := map[string]int{}
	for more := true; more; {
		more = false
		for other, w := range m.words {
			for _, x := range calls(w.Def.Body) {
				if on[other] == 0 && (x == name || on[x] > 0) {
					on[other], more = 1, true
				}
			}
		}
	}
	return sortedKeys(on)
}

// chance makes what a script does.
type chance struct {
	*rand.Rand
	there []string // words that are there, so that bodies call these more often
}

func byChance(seed int64) *chance { return &chance{Rand: rand.New(rand.NewSource(seed))} }

func (c *chance) of(all ...string) string { return all[c.Intn(len(all))] }

func (c *chance) vocab() string { return c.of("a", "b", "c", "é") }

func (c *chance) word() string { return c.of("p", "q", "r", "s", "tt", "u", "v", "dup", "1") }

// body answers items, most of them calls of words.
func (c *chance) body(deep int) (all []api.Item) {
	for range c.Intn(4) {
		switch c.Intn(9) {
		case 0:
			all = append(all, push(num(int64(c.Intn(9)))))
		case 1, 2, 3:
			name := c.of("p", "q", "r", "s", "tt", "u", "v")
			if len(c.there) > 0 && c.Intn(6) > 0 {
				name = c.of(c.there...)
			}
			all = append(all, call(name))
		case 4:
			all = append(all, call(c.of("drop", "dup", "+", "-", "swap")))
		case 5:
			if deep > 0 {
				all = append(all, push(quot(c.body(deep-1)...)), call(c.of("call", "dip", "keep", "drop", "when", "times")))
			}
		case 6:
			if deep > 0 {
				all = append(all, push(quot(c.body(deep-1)...)), push(quot(c.body(deep-1)...)), call("if"))
			}
		case 7:
			if deep > 0 {
				all = append(all, push(list(num(1), list(quot(c.body(deep-1)...)))), call("drop"))
			}
		case 8:
			if c.Intn(40) == 0 {
				all = append(all, push(list(box(1))))
			}
		}
	}
	return all
}

// def answers a definition, most often with the effect that is inferred where all words are known.
func (c *chance) def(m model) api.Def {
	c.there = sortedKeys(m.words)
	d := api.Def{Name: c.word(), Body: c.body(2)}
	d.Effect = has(c.Intn(3), c.Intn(3))
	if c.Intn(5) > 0 {
		known := []api.Known{{Name: d.Name, Effect: d.Effect}}
		for name, w := range m.words {
			known = append(known, api.Known{Name: name, Effect: w.Def.Effect})
		}
		if x, e := effect.Of(d.Body, known); e == api.OK {
			d.Effect = x
		}
	}
	return d
}

// step makes one edit of a dictionary and of a model, and answers what was told of it.
func (c *chance) step(t *testing.T, d api.Dict, m model) (string, api.Dict, model) {
	t.Helper()
	next := m.clone()
	var what string
	var got api.Dict
	var e, want api.Errno
	switch c.Intn(10) {
	case 0:
		name := c.of(c.vocab(), c.vocab(), c.vocab(), c.vocab(), "1")
		var list []string
		for range c.Intn(3) {
			list = append(list, c.vocab())
		}
		what = "Vocab"
		got, e = dict.Vocab(d, name, list)
		want = next.vocab(name, list)
	case 1, 2:
		name, more := c.vocab(), c.vocab()
		what = "Use"
		got, e = dict.Use(d, name, more)
		want = next.use(name, more)
	case 3:
		name := c.word()
		what = "Forget"
		got, e = dict.Forget(d, name)
		want = next.forget(name)
	default:
		vocab, def := c.vocab(), c.def(m)
		if old, ok := m.words[def.Name]; ok && c.Intn(3) > 0 {
			vocab = old.Vocab
		}
		what = "Define"
		got, e = dict.Define(d, vocab, def)
		want = next.define(vocab, def)
	}
	if e != want {
		t.Fatalf("%s: %d, want %d\n%s", what, e, want, tellDict(d))
	}
	if e != api.OK {
		refuses(t, e, got, e)
		got, next = d, m
	}
	return fmt.Sprint(what, " ", int(e)), got, next
}

func (m model) holds(t *testing.T, d api.Dict) {
	t.Helper()
	same(t, d, m.dict())
	for _, name := range []string{"p", "q", "r", "s", "tt", "u", "v", "dup"} {
		w, there := m.words[name]
		hang, f := dict.Hang(d, name)
		got, e := dict.Lookup(d, name)
		if !there {
			w = api.Word{}
		}
		if (e == api.OK) != there || e != f || tellWord(got) != tellWord(w) || there && !slices.Equal(hang, m.hang(name)) {
			t.Fatalf("of %s: %s, %v, %d, %d", name, tellWord(got), hang, e, f)
		}
	}
}

func TestScriptsByChance(t *testing.T) {
	c := byChance(1414)
	seen := map[string]int{}
	largest := 0
	for range 150 {
		d, m := dict.New(), empty()
		for range 80 {
			var what string
			what, d, m = c.step(t, d, m)
			seen[what]++
			m.holds(t, d)
			if t.Failed() {
				return
			}
			largest = max(largest, len(d.Words))
		}
	}
	for _, what := range []string{"Vocab 0", "Vocab 6", "Vocab 10", "Vocab 14", "Use 0", "Use 6", "Use 14", "Use 15", "Forget 0", "Forget 6", "Forget 13", "Define 0", "Define 1", "Define 6", "Define 10", "Define 12", "Define 14"} {
		if seen[what] < 20 {
			t.Errorf("%s came %d times", what, seen[what])
		}
	}
	if largest < 6 {
		t.Errorf("no dictionary had more than %d words", largest)
	}
}

// P5: what is refused leaves all as it was, so scripts that are undone lead back.
func TestScriptsAreUndone(t *testing.T) {
	c := byChance(77)
	for range 40 {
		b, _ := dict.Open(dict.New(), nil, nil, api.MaxHistory)
		m, states := empty(), []string{tellDict(dict.New())}
		for len(states) <= api.MaxHistory {
			what, d, next := c.step(t, b.Dict(), m)
			if strings.HasSuffix(what, " 0") {
				answers(t, b.Set(d), api.OK)
				states = append(states, tellDict(d))
			}
			m = next
		}
		for i := len(states) - 1; i >= 0; i-- {
			if tellDict(b.Dict()) != states[i] {
				t.Fatalf("undone to %d, the dictionary is another", i)
			}
			b.Undo()
		}
		for i := range states {
			if tellDict(b.Dict()) != states[i] {
				t.Fatalf("brought on to %d, the dictionary is another", i)
			}
			b.Redo()
		}
	}
}

// sound answers whether a dictionary of the model's bodies is sound.
func sound(d api.Dict) bool {
	m := empty()
	var names, vocabNames []string
	for _, v := range d.Vocabs {
		m.uses[v.Name] = v.Uses
		vocabNames = append(vocabNames, v.Name)
	}
	for _, w := range d.Words {
		m.words[w.Def.Name] = w
		names = append(names, w.Def.Name)
	}
	if !slices.Equal(names, sortedKeys(m.words)) || !slices.Equal(vocabNames, sortedKeys(m.uses)) {
		return false
	}
	for name, list := range m.uses {
		if name == "1" || m.far(name, name, len(m.uses)) {
			return false
		}
		for i, x := range list {
			if _, ok := m.uses[x]; !ok || slices.Index(list, x) != i {
				return false
			}
		}
	}
	for name, w := range m.words {
		_, ok := m.uses[w.Vocab]
		if !ok || name == "1" || name == "dup" || strings.Contains(fmt.Sprintf("%#v", w.Def.Body), "api.Box") || m.fault(w) != api.OK {
			return false
		}
	}
	return true
}

// spoilt answers the model's dictionary with something changed.
func (c *chance) spoilt(m model) api.Dict {
	d := m.clone().dict()
	if len(d.Vocabs) < 2 || len(d.Words) < 2 {
		return d
	}
	v, w := c.Intn(len(d.Vocabs)), c.Intn(len(d.Words))
	switch c.Intn(10) {
	case 0:
		d.Vocabs = slices.Delete(d.Vocabs, v, v+1)
	case 1:
		d.Words = slices.Delete(d.Words, w, w+1)
	case 2:
		d.Vocabs[v].Name = c.vocab()
	case 3:
		d.Words[w].Def.Name = c.word()
	case 4:
		d.Vocabs[v].Uses = append(d.Vocabs[v].Uses, c.vocab())
	case 5:
		d.Vocabs[v].Uses = nil
	case 6:
		d.Words[w].Vocab = c.vocab()
	case 7:
		d.Words[w].Def.Effect = has(c.Intn(3), c.Intn(3))
	case 8:
		d.Words[w].Def.Body = c.body(2)
	case 9:
		d.Words[w], d.Words[0] = d.Words[0], d.Words[w]
	}
	return d
}

func TestSpoiltByChance(t *testing.T) {
	c := byChance(5)
	seen := [2]int{}
	for range 60 {
		d, m := dict.New(), empty()
		for range 100 {
			_, d, m = c.step(t, d, m)
			bad := c.spoilt(m)
			want := api.ErrForm
			if sound(bad) {
				want = api.OK
			}
			if e := dict.Check(bad); e != want {
				t.Fatalf("Check: %d, want %d of\n%s", e, want, tellDict(bad))
			}
			seen[want]++
		}
	}
	if seen[0] < 500 || seen[1] < 500 {
		t.Errorf("sound and not: %v", seen)
	}
}
