package link_test

import (
	"fmt"
	"math/rand"
	"slices"
	"strings"
	"testing"

	"quire/api"
	"quire/dict"
	"quire/effect"
	"quire/interp"
	"quire/link"
	"quire/prim"
	"quire/value"
)

// chance makes dictionaries, code and what is wrong with it.
type chance struct{ *rand.Rand }

func one[T any](c chance, all ...T) T { return all[c.Intn(len(all))] }

var wordNames = strings.Fields("p q r s u é B")

// item answers items that do something together; quotations stand no deeper than told.
func (c chance) item(deep int) []api.Item {
	code := func() api.Item { return push(api.Quot{Items: c.items(3, deep-1)}) }
	switch n := c.Intn(12); {
	case n < 3:
		return items(push(num(int64(c.Intn(5)))))
	case n < 6:
		return items(call(one(c, wordNames...)))
	case n < 9:
		return items(call(one(c, "dup", "drop", "swap", "over", "+", "-", "*", "=", "nip", "wrap", "length")))
	case n == 9 || deep == 0:
		return items(push(one(c, str("x"), api.Value(api.Bool{B: true}), list(), list(num(1), quot(call("dup"))))))
	case n == 10:
		return items(code(), call(one(c, "call", "dip")))
	}
	return items(push(num(int64(c.Intn(2)))), push(num(1)), call("="), code(), code(), call("if"))
}

func (c chance) items(most, deep int) []api.Item {
	var all []api.Item
	for range c.Intn(most + 1) {
		all = append(all, c.item(deep)...)
	}
	return all
}

// edit answers a dictionary with a definition more, in the place of another, or less; or as it was.
func (c chance) edit(d api.Dict) api.Dict {
	name := one(c, wordNames...)
	if c.Intn(12) == 0 {
		if made, e := dict.Forget(d, name); e == api.OK {
			return made
		}
		return d
	}
	var known []api.Known
	for _, w := range d.Words {
		if w.Def.Name != name {
			known = append(known, api.Known{Name: w.Def.Name, Effect: w.Def.Effect})
		}
	}
	own := api.Effect{In: c.Intn(3), Out: c.Intn(3)}
	body := c.items(5, 2)
	found, _ := effect.Of(body, append(known, api.Known{Name: name, Effect: own}))
	made, e := dict.Define(d, one(c, "a", "b", "c"), api.Def{Name: name, Effect: found, Body: body})
	if e != api.OK {
		return d
	}
	return made
}

// opsOf answers the code of items by going through all names for each.
func opsOf(words []string, all []api.Item) (made []api.Op, known bool) {
	for _, item := range all {
		if x, ok := item.(api.Push); ok {
			made = append(made, opPush(x.V))
			continue
		}
		name := item.(api.Call).Name
		at, place := slices.Index(strings.Fields(primitives), name), slices.Index(words, name)
		switch {
		case at >= 0:
			made = append(made, opPrim(at))
		case place >= 0:
			made = append(made, opCall(place))
		default:
			return nil, false
		}
	}
	return made, true
}

func codesOf(d api.Dict) (all []api.Code) {
	var words []string
	for _, w := range d.Words {
		words = append(words, w.Def.Name)
	}
	for _, w := range d.Words {
		made, _ := opsOf(words, w.Def.Body)
		all = append(all, code(w.Def.Name, made...))
	}
	return all
}

// machine carries out operations by their numbers. It calls itself for each frame.
type machine struct {
	codes       []api.Code
	stack       []api.Value
	frames      int
	fuel, spent int
}

func (m *machine) enter(all []api.Op) api.Errno {
	if m.frames == api.MaxFrames {
		return api.ErrDeep
	}
	m.frames++
	for _, op := range all {
		if m.spent == m.fuel {
			return api.ErrFuel
		}
		m.spent++
		if e := m.step(op); e != api.OK {
			return e
		}
	}
	m.frames--
	return api.OK
}

func (m *machine) push(v api.Value) api.Errno {
	if len(m.stack) == api.MaxStack {
		return api.ErrLarge
	}
	m.stack = append(m.stack, v)
	return api.OK
}

func (m *machine) pop() api.Value {
	last := len(m.stack) - 1
	v := m.stack[last]
	m.stack = m.stack[:last]
	return v
}

func (m *machine) step(op api.Op) api.Errno {
	switch op.Kind {
	case api.OPush:
		return m.push(op.V)
	case api.OCall:
		return m.enter(m.codes[op.N].Ops)
	}
	switch name := strings.Fields(primitives)[op.N]; name {
	case "call", "dip", "if":
		return m.code(name)
	default:
		made, e := prim.Do(name, m.stack)
		if e == api.OK && len(made) > api.MaxStack {
			e = api.ErrLarge
		}
		if e == api.OK {
			m.stack = made
		}
		return e
	}
}

// code carries out a primitive that calls quotations, which stand on the stack: what makes code here sees to it.
func (m *machine) code(name string) api.Errno {
	q := m.pop().(api.Quot)
	if name == "if" {
		other := m.pop().(api.Quot)
		if m.pop().(api.Bool).B {
			q = other
		}
	}
	linked, e := link.Ops(m.codes, q.Items)
	if e != api.OK || name != "dip" {
		return max(e, m.enter(linked))
	}
	if len(m.stack) == 0 {
		return api.ErrUnder
	}
	if m.frames == api.MaxFrames {
		return api.ErrDeep
	}
	x := m.pop()
	m.frames++
	if e := m.enter(linked); e != api.OK {
		return e
	}
	m.frames--
	return m.push(x)
}

// runsAlike holds that the code of items does what the items do when each name is looked up as it is called.
func runsAlike(t *testing.T, d api.Dict, all []api.Code, body []api.Item, fuel int) api.Errno {
	t.Helper()
	linked, e := link.Ops(all, body)
	if e != api.OK {
		t.Fatalf("Ops of %s with %s: %d", tellItems(body), tellCodes(all), e)
	}
	m := machine{codes: all, fuel: fuel}
	e = m.enter(linked)
	if e != api.OK {
		m.stack = nil
	}
	defs, _ := dict.Defs(d)
	state, _, used, want := interp.Run(defs, body, api.State{Next: 1}, fuel)
	if tell(list(m.stack...)) != tell(list(state.Stack...)) || m.spent != used || e != want {
		t.Fatalf("%s with %s: %s, %d, %d, want %s, %d, %d", tellItems(body), tellCodes(all), tell(list(m.stack...)), m.spent, e, tell(list(state.Stack...)), used, want)
	}
	return e
}

// P5, and P18.1 and P18.2: dictionaries that edits by chance make, their codes, and what these do.
func TestLinksByChance(t *testing.T) {
	c := chance{rand.New(rand.NewSource(18))}
	seen := map[string]int{}
	for range 400 {
		d := dictOf(t, "a", "b uses a", "c uses b a")
		for range 40 {
			d = c.edit(d)
			want := codesOf(d)
			got, e := link.Link(d)
			if tellCodes(got) != tellCodes(want) || e != api.OK || link.Check(got) != api.OK {
				t.Fatalf("Link: %s, %d, want %s", tellCodes(got), e, tellCodes(want))
			}
			for i, w := range d.Words {
				means(t, got, w.Def.Body, got[i].Ops...)
			}
			if len(d.Words) == 0 {
				continue
			}
			w := one(c, d.Words...)
			body := slices.Repeat(items(push(num(3))), w.Def.Effect.In)
			e = runsAlike(t, d, got, append(body, call(w.Def.Name)), one(c, 5, 30, 2000))
			seen[fmt.Sprint("run ", e)]++
			seen[fmt.Sprint("words ", len(d.Words))]++
		}
	}
	for _, what := range []string{"run 0", "run 17", "run 20", "run 21", "words 1", "words 4", "words 6"} {
		if seen[what] < 40 {
			t.Errorf("%q came %d times: %v", what, seen[what], seen)
		}
	}
}

// spoiltOps answers operations of which one was changed.
func (c chance) spoiltOps(all []api.Op) []api.Op {
	all = slices.Clone(all)
	if len(all) == 0 || c.Intn(4) == 0 {
		return slices.Insert(all, c.Intn(len(all)+1), c.op())
	}
	op := &all[c.Intn(len(all))]
	switch c.Intn(4) {
	case 0:
		op.Kind = c.Intn(5)
	case 1:
		op.N = one(c, -1, 0, 1, 2, 3, 51, 52)
	case 2:
		op.V = one(c, nil, num(1), list(box(1)), list(nil), quot(call("p")), quot(call("1")))
	default:
		*op = c.op()
	}
	return all
}

func (c chance) op() api.Op {
	return api.Op{Kind: c.Intn(4), N: one(c, 0, 0, 0, 1, 2, 51, 52), V: one(c, nil, nil, nil, num(1), quot(call("x")), box(1), str("\xff"))}
}

// spoilt answers codes in which something was changed.
func (c chance) spoilt(all []api.Code) []api.Code {
	all = slices.Clone(all)
	if len(all) == 0 {
		return codes(code(one(c, "x", "1", "dup"), c.op()))
	}
	at := c.Intn(len(all))
	switch c.Intn(6) {
	case 0:
		all[at].Name = one(c, "p", "a", "z", "dup", "t", "", "B", "�")
	case 1:
		all = slices.Delete(all, at, at+1)
	case 2:
		all = slices.Insert(all, at, code(one(c, "a", "p", "v", "é"), c.op()))
	case 3:
		long := slices.Repeat(ops(opPrim(1)), api.MaxSize-5+c.Intn(5)-len(all[at].Ops))
		all[at].Ops = append(long, all[at].Ops...)
	default:
		all[at].Ops = c.spoiltOps(all[at].Ops)
	}
	return all
}

// soundOps answers whether operations are the code of some items, where there are so many codes.
func soundOps(n int, all []api.Op) bool {
	size, depth := 1, 1
	for _, op := range all {
		bare := op.V == nil && op.N >= 0
		switch {
		case op.Kind == api.OPush && op.N == 0 && value.Check(op.V) == api.OK && !strings.Contains(tell(op.V), "api.Box"):
			of, _ := value.Size(op.V)
			within, _ := value.Depth(op.V)
			size, depth = size+of, max(depth, within+1)
		case bare && op.Kind == api.OPrim && op.N < 52, bare && op.Kind == api.OCall && op.N < n:
			size++
		default:
			return false
		}
	}
	return size <= api.MaxSize && depth <= api.MaxNest
}

func soundCodes(all []api.Code) bool {
	for i, c := range all {
		if i > 0 && all[i-1].Name >= c.Name || slices.Contains(badNames(), c.Name) || slices.Contains(strings.Fields(primitives), c.Name) || !soundOps(len(all), c.Ops) {
			return false
		}
	}
	return true
}

// sameCodes answers whether both are not sound, or both are, and the same.
func sameCodes(a, b []api.Code) bool {
	if !soundCodes(a) || !soundCodes(b) {
		return soundCodes(a) == soundCodes(b)
	}
	return tellCodes(a) == tellCodes(b)
}

// P18.1 and P18.2: codes and operations that are sound, and such that are nearly so.
func TestSoundnessByChance(t *testing.T) {
	c := chance{rand.New(rand.NewSource(81))}
	seen := map[string]int{}
	for range 1500 {
		d := dictOf(t, "a", "b uses a", "c uses b a")
		for range 10 {
			d = c.edit(d)
		}
		fine, _ := link.Link(d)
		all := c.spoilt(fine)
		sound := soundCodes(all)
		if got := link.Check(all) == api.OK; got != sound {
			t.Fatalf("Check of %s: %v", tellCodes(all), got)
		}
		for _, other := range [][]api.Code{fine, all, c.spoilt(fine), c.spoilt(nil)} {
			both := fmt.Sprint("Same ", sound, " ", soundCodes(other), " ", sameCodes(all, other))
			if got := link.Same(all, other); got != sameCodes(all, other) || link.Same(other, all) != got {
				t.Fatalf("Same of %s and %s: %v", tellCodes(all), tellCodes(other), got)
			}
			seen[both]++
		}
		var words []string
		for _, code := range all {
			words = append(words, code.Name)
		}
		body := c.items(4, 2)
		want, known := opsOf(words, body)
		got, e := link.Ops(all, body)
		if (e == api.ErrForm) == sound || (e == api.ErrName) != (sound && !known) || e == api.OK && tellOps(got) != tellOps(want) {
			t.Fatalf("Ops of %s with %s: %s, %d", tellItems(body), tellCodes(all), tellOps(got), e)
		}
		some := c.spoiltOps(want)
		back, err := link.Back(all, some)
		again, _ := opsOf(words, back)
		if whole := sound && soundOps(len(all), some); (err == api.OK) != whole || err == api.OK && tellOps(again) != tellOps(some) {
			t.Fatalf("Back of %s with %s: %s, %d", tellOps(some), tellCodes(all), tellItems(back), err)
		}
		seen[fmt.Sprint("Check ", sound)]++
		seen[fmt.Sprint("Ops ", e)]++
		seen[fmt.Sprint("Back ", sound, " ", err)]++
	}
	for _, what := range []string{"Check true", "Check false", "Ops 0", "Ops 1", "Ops 10", "Back true 0", "Back true 1", "Back false 1", "Same true true true", "Same true true false", "Same true false false", "Same false true false", "Same false false true"} {
		if seen[what] < 100 {
			t.Errorf("%q came %d times: %v", what, seen[what], seen)
		}
	}
}
