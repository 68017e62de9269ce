package load_test

import (
	"fmt"
	"math/rand"
	"slices"
	"testing"

	"quire/api"
	"quire/load"
)

// A model that goes by maps and by what words take and leave, counted item by item. Its bodies have numbers and calls alone.

// world is a dictionary.
type world struct {
	uses  map[string][]string
	words map[string]api.Word
}

func worldOf(d api.Dict) world {
	w := world{map[string][]string{}, map[string]api.Word{}}
	for _, v := range d.Vocabs {
		w.uses[v.Name] = v.Uses
	}
	for _, x := range d.Words {
		w.words[x.Def.Name] = x
	}
	return w
}

func rising[V any](m map[string]V) (all []string) {
	for name := range m {
		all = append(all, name)
	}
	slices.Sort(all)
	return all
}

func (w world) dict() (d api.Dict) {
	for _, name := range rising(w.uses) {
		d.Vocabs = append(d.Vocabs, api.Vocab{Name: name, Uses: w.uses[name]})
	}
	for _, name := range rising(w.words) {
		d.Words = append(d.Words, w.words[name])
	}
	return d
}

// effectOf answers what an item takes and leaves, or false, if a vocabulary does not see it.
func (w world) effectOf(vocab string, item api.Item) (api.Effect, bool) {
	if _, ok := item.(api.Push); ok {
		return api.Effect{Out: 1}, true
	}
	switch name := item.(api.Call).Name; name {
	case "dup":
		return api.Effect{In: 1, Out: 2}, true
	case "drop":
		return api.Effect{In: 1}, true
	default:
		x, there := w.words[name]
		return x.Def.Effect, there && (x.Vocab == vocab || slices.Contains(w.uses[vocab], x.Vocab))
	}
}

// fault answers why a word does not fit.
func (w world) fault(x api.Word) api.Errno {
	in, there := 0, 0
	for _, item := range x.Def.Body {
		e, seen := w.effectOf(x.Vocab, item)
		if !seen {
			return api.ErrName
		}
		more := max(0, e.In-there)
		in, there = in+more, there+more-e.In+e.Out
	}
	if in > api.MaxArgs || there > api.MaxArgs {
		return api.ErrLarge
	}
	if in != x.Def.Effect.In || there != x.Def.Effect.Out {
		return api.ErrEffect
	}
	return api.OK
}

// load puts a manifest into a world, as far as it goes.
func (w world) load(m api.Manifest) api.Errno {
	w.uses[m.Name] = m.Uses
	for _, d := range m.Defs {
		if d.Name == "dup" || d.Name == "drop" {
			return api.ErrName
		}
		if old, there := w.words[d.Name]; there && old.Vocab != m.Name {
			return api.ErrTwice
		}
		x := api.Word{Vocab: m.Name, Def: d}
		w.words[d.Name] = x
		if e := w.fault(x); e != api.OK {
			return e
		}
		for _, other := range w.words {
			if w.fault(other) != api.OK {
				return api.ErrEffect
			}
		}
	}
	return api.OK
}

// byName answers the manifests by their names, and whether there are two of one name, or one that names another twice.
func byName(list []api.Manifest) (map[string]api.Manifest, string, bool) {
	all, twice := map[string]api.Manifest{}, map[string]int{}
	for _, m := range list {
		if _, there := all[m.Name]; there {
			twice[m.Name]++
		}
		all[m.Name] = m
		for i, name := range m.Uses {
			if slices.Index(m.Uses, name) != i {
				twice[m.Name]++
			}
		}
	}
	if len(twice) > 0 {
		return nil, rising(twice)[0], true
	}
	return all, "", false
}

// wanted answers all that has to come.
func wanted(all map[string]api.Manifest, want []string, there map[string][]string) map[string]int {
	found := map[string]int{}
	var add func(names []string)
	add = func(names []string) {
		for _, name := range names {
			_, is := there[name]
			if found[name]++; !is && found[name] == 1 {
				add(all[name].Uses)
			}
			if is {
				delete(found, name)
			}
		}
	}
	add(want)
	return found
}

// next answers the least name whose uses have all come.
func next(all map[string]api.Manifest, left map[string]int) (string, bool) {
	for _, name := range rising(left) {
		if !slices.ContainsFunc(all[name].Uses, func(used string) bool { return left[used] > 0 }) {
			return name, true
		}
	}
	return "", false
}

// circle answers the least name that uses itself, by others, too.
func circle(all map[string]api.Manifest, left map[string]int) string {
	for _, name := range rising(left) {
		met := map[string]int{}
		var walk func(from string) bool
		walk = func(from string) bool {
			for _, used := range all[from].Uses {
				if met[used]++; left[used] > 0 && (used == name || met[used] == 1 && walk(used)) {
					return true
				}
			}
			return false
		}
		if walk(name) {
			return name
		}
	}
	return ""
}

func planOf(d api.Dict, list []api.Manifest, want []string) (order []string, which string, e api.Errno) {
	all, name, twice := byName(list)
	if twice {
		return nil, name, api.ErrTwice
	}
	left := wanted(all, want, worldOf(d).uses)
	for _, name := range rising(left) {
		if _, there := all[name]; !there {
			return nil, name, api.ErrNone
		}
	}
	for len(left) > 0 {
		name, found := next(all, left)
		if !found {
			return nil, circle(all, left), api.ErrCycle
		}
		order = append(order, name)
		delete(left, name)
	}
	return order, "", api.OK
}

func model(d api.Dict, list []api.Manifest, want []string) (api.Dict, []string, string, api.Errno) {
	order, which, e := planOf(d, list, want)
	if e != api.OK {
		return api.Dict{}, nil, which, e
	}
	w := worldOf(d)
	for _, name := range order {
		at := slices.IndexFunc(list, func(m api.Manifest) bool { return m.Name == name })
		if e := w.load(list[at]); e != api.OK {
			return api.Dict{}, nil, name, e
		}
	}
	return w.dict(), order, "", api.OK
}

// chance makes manifests and what is asked of them.
type chance struct{ *rand.Rand }

func (c chance) some(all []string, n int) (some []string) {
	for range n {
		some = append(some, all[c.Intn(len(all))])
	}
	return some
}

// def answers a definition that fits in a world mostly, and is in it from then on.
func (c chance) def(w world, name string) api.Def {
	word := c.some(names("p", "q", "r", "s", "t1", "u"), 1)[0]
	if c.Intn(80) == 0 {
		word = "dup"
	}
	d := def(word, 0, 0)
	in, there := 0, 0
	for range c.Intn(5) {
		item := call(c.some(names("dup", "drop", "p", "q", "r", "s", "t1", "u", word), 1)[0])
		e, seen := w.effectOf(name, item)
		if !seen && c.Intn(60) > 0 {
			item, e = push(api.Int{N: int64(c.Intn(3))}), api.Effect{Out: 1}
		}
		more := max(0, e.In-there)
		in, there = in+more, there+more-e.In+e.Out
		d.Body = append(d.Body, item)
	}
	d.Effect = api.Effect{In: in, Out: there}
	if c.Intn(40) == 0 {
		d.Effect.Out++
	}
	if d.Effect.In > api.MaxArgs || d.Effect.Out > api.MaxArgs {
		return def(word, 0, 0)
	}
	if old, there := w.words[word]; !there || old.Vocab == name {
		w.words[word] = api.Word{Vocab: name, Def: d}
	}
	return d
}

// manifests answers vocabularies of which each uses some of those ahead of it; at times others, or one twice.
func (c chance) manifests() (list []api.Manifest) {
	all := names("a", "B", "b", "c", "ab", "é")
	c.Shuffle(len(all), func(i, j int) { all[i], all[j] = all[j], all[i] })
	n, kind := c.Intn(len(all)+1), c.Intn(30)
	w := worldOf(api.Dict{})
	for i, name := range all[:n] {
		m := vocab(name)
		for _, other := range all {
			if at := slices.Index(all, other); c.Intn(2) == 0 && (at < i || kind == 0 && c.Intn(3) == 0 || kind == 1 && at < n && c.Intn(3) == 0) {
				m.Uses = append(m.Uses, other)
			}
		}
		if kind == 2 {
			m.Uses = append(m.Uses, m.Uses...)[:min(len(m.Uses)*2, c.Intn(4))]
		}
		w.uses[name] = m.Uses
		for range c.Intn(4) {
			m.Defs = append(m.Defs, c.def(w, name))
		}
		list = append(list, m)
	}
	if kind == 3 && n > 0 {
		list = append(list, list[c.Intn(n)])
	}
	c.Shuffle(len(list), func(i, j int) { list[i], list[j] = list[j], list[i] })
	return list
}

func TestByChance(t *testing.T) {
	c := chance{rand.New(rand.NewSource(17))}
	seen := map[string]int{}
	var d api.Dict
	for range 30000 {
		list := c.manifests()
		asked := names("a", "b", "z")
		for _, m := range list {
			asked = append(asked, m.Name, m.Name)
		}
		want := c.some(asked, c.Intn(4))
		made, order, which, e := load.Load(d, list, want)
		outMade, out, name, err := model(d, list, want)
		if tell(made) != tell(outMade) || !slices.Equal(order, out) || which != name || e != err {
			t.Fatalf("Load of %v into %s for %q: %s, %q, %q, %d, want %s, %q, %q, %d", list, tell(d), want, tell(made), order, which, e, tell(outMade), out, name, err)
		}
		planned, at, fault := load.Plan(d, list, want)
		out, name, err = planOf(d, list, want)
		if !slices.Equal(planned, out) || at != name || fault != err {
			t.Fatalf("Plan of %v with %s for %q: %q, %q, %d, want %q, %q, %d", list, tell(d), want, planned, at, fault, out, name, err)
		}
		seen[fmt.Sprint(e, " ", fault, " ", len(d.Vocabs) > 0, " ", len(order))]++
		// What came of one is what the next goes on with, till little more can come.
		d = made
		if len(d.Vocabs) > 3 {
			d = api.Dict{}
		}
	}
	for _, what := range []string{"0 0 false 0", "0 0 false 1", "0 0 false 2", "0 0 false 3", "0 0 true 0", "0 0 true 1", "0 0 true 2", "6 6 false 0", "6 6 true 0", "14 14 false 0", "15 15 false 0", "10 0 false 0", "10 0 true 0", "12 0 false 0", "14 0 false 0", "14 0 true 0"} {
		if seen[what] < 40 {
			t.Errorf("%q came %d times: %v", what, seen[what], seen)
		}
	}
}
