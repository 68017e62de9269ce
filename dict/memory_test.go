package dict_test

import (
	"fmt"
	"strings"
	"testing"

	"quire/api"
	"quire/dict"
)

// R4: memory

// roomy answers a dictionary whose lists have spare room, and in which one list stands several times.
func roomy() api.Dict {
	one := append(make([]api.Value, 0, 5), num(1), str("two"))
	code := append(make([]api.Item, 0, 6), push(api.List{Items: one}), call("drop"))
	body := append(make([]api.Item, 0, 9), push(api.Quot{Items: code}), push(list(api.List{Items: one}, api.Quot{Items: code})), push(list()), push(quot()))
	short := append(make([]api.Item, 0, 3), call("aa"), call("drop"))
	for _, spare := range [][]api.Item{code[2:6], body[4:9], short[2:3]} {
		for i := range spare {
			spare[i] = call("spare")
		}
	}
	for i := range one[2:5] {
		one[:5][2+i] = str("spare")
	}
	used := append(make([]string, 0, 5), "a", "b", "spare", "spare", "spare")
	all := append(make([]api.Word, 0, 9),
		api.Word{Vocab: "a", Def: made("aa", 0, 4, body...)},
		api.Word{Vocab: "a", Def: made("ab", 0, 4, body...)},
		api.Word{Vocab: "c", Def: made("ca", 0, 3, short...)},
		api.Word{Vocab: "d", Def: made("da", 0, 3, short...)},
		api.Word{Vocab: "a", Def: made("spare", 9, 9)})
	for i, items := range [][]api.Item{body, body, short, short} {
		all[i].Def.Body = items
	}
	vs := append(make([]api.Vocab, 0, 9), uses("a"), uses("b"), uses("c"), uses("d"), uses("spare", "spare"))
	vs[1].Uses, vs[2].Uses, vs[3].Uses = used[:1], used[:2], used[:2]
	return api.Dict{Vocabs: vs[:4], Words: all[:4]}
}

// tellRoom tells a value with the spare room of its lists.
func tellRoom(v api.Value) string {
	switch x := v.(type) {
	case api.List:
		var parts []string
		for _, v := range x.Items[:cap(x.Items)] {
			parts = append(parts, tellRoom(v))
		}
		return fmt.Sprint("List ", len(x.Items), "(", strings.Join(parts, " "), ")")
	case api.Quot:
		return "Quot " + tellRoomOfItems(x.Items)
	}
	return tell(v)
}

func tellRoomOfItems(all []api.Item) string {
	told := fmt.Sprint(len(all), "(")
	for _, item := range all[:cap(all)] {
		if p, ok := item.(api.Push); ok {
			told += " " + tellRoom(p.V)
			continue
		}
		told += fmt.Sprintf(" %#v", item)
	}
	return told + ")"
}

// room tells a dictionary with the spare room of its lists.
func room(d api.Dict) string {
	told := fmt.Sprint(len(d.Vocabs), len(d.Words))
	for _, v := range d.Vocabs[:cap(d.Vocabs)] {
		told += fmt.Sprintf("\n%q %d %q", v.Name, len(v.Uses), v.Uses[:cap(v.Uses)])
	}
	for _, w := range d.Words[:cap(d.Words)] {
		told += fmt.Sprintf("\n%q %q %v %s", w.Vocab, w.Def.Name, w.Def.Effect, tellRoomOfItems(w.Def.Body))
	}
	return told
}

func rooms(all []api.Dict) string {
	told := fmt.Sprint(len(all))
	for _, d := range all[:cap(all)] {
		told += "\n---\n" + room(d)
	}
	return told
}

// fill writes over a list, spare room included.
func fill[T any](list []T, with T) {
	all := list[:cap(list)]
	for i := range all {
		all[i] = with
	}
}

// spoil writes over all lists of a value, from the innermost on.
func spoil(v api.Value) {
	switch x := v.(type) {
	case api.List:
		for _, v := range x.Items {
			spoil(v)
		}
		fill(x.Items, str("spoilt"))
	case api.Quot:
		spoilItems(x.Items)
	}
}

func spoilItems(all []api.Item) {
	for _, item := range all {
		if p, ok := item.(api.Push); ok {
			spoil(p.V)
		}
	}
	fill(all, call("spoilt"))
}

func spoilDict(d api.Dict) {
	for _, v := range d.Vocabs {
		fill(v.Uses, "spoilt")
	}
	for _, w := range d.Words {
		spoilItems(w.Def.Body)
	}
	fill(d.Vocabs, uses("spoilt", "spoilt"))
	fill(d.Words, api.Word{Vocab: "spoilt", Def: made("spoilt", 1, 1)})
}

func spoilDicts(all []api.Dict) {
	for _, d := range all {
		spoilDict(d)
	}
	fill(all, api.Dict{Vocabs: vocabs(uses("spoilt"))})
}

// places is where parts of lists stand, spare room included.
type places map[any]int

// met gathers the places of a list, and answers whether one of them was there before.
func met[T any](p places, list []T) (again bool) {
	all := list[:cap(list)]
	for i := range all {
		p[&all[i]]++
		again = again || p[&all[i]] > 1
	}
	return again
}

func (p places) value(v api.Value) (again bool) {
	switch x := v.(type) {
	case api.List:
		again = met(p, x.Items)
		for _, v := range x.Items {
			again = p.value(v) || again
		}
	case api.Quot:
		again = p.items(x.Items)
	}
	return again
}

func (p places) items(all []api.Item) (again bool) {
	again = met(p, all)
	for _, item := range all {
		if x, ok := item.(api.Push); ok {
			again = p.value(x.V) || again
		}
	}
	return again
}

func (p places) dict(d api.Dict) (again bool) {
	again = met(p, d.Vocabs)
	again = met(p, d.Words) || again
	for _, v := range d.Vocabs {
		again = met(p, v.Uses) || again
	}
	for _, w := range d.Words {
		again = p.items(w.Def.Body) || again
	}
	return again
}

func (p places) dicts(all []api.Dict) (again bool) {
	again = met(p, all)
	for _, d := range all {
		again = p.dict(d) || again
	}
	return again
}

// answered is what calls answered for a dictionary.
type answered struct {
	dicts []api.Dict
	words []api.Word
	names [][]string
	defs  [][]api.Def
}

// ask makes all calls that answer lists; each has to go well.
func ask(t *testing.T, d api.Dict, def api.Def, more []string) (a answered) {
	t.Helper()
	keep := func(d api.Dict, e api.Errno) {
		t.Helper()
		answers(t, e, api.OK)
		a.dicts = append(a.dicts, d)
	}
	keep(dict.Vocab(d, "bb", more))
	keep(dict.Vocab(d, "z", nil))
	keep(dict.Use(d, "c", "d"))
	keep(dict.Use(d, "d", "c"))
	keep(dict.Define(d, "a", def))
	def.Name = "aa"
	keep(dict.Define(d, "a", def))
	keep(dict.Forget(d, "ca"))
	keep(dict.Forget(d, "da"))
	for _, name := range []string{"aa", "ab", "da"} {
		w, e := dict.Lookup(d, name)
		answers(t, e, api.OK)
		a.words = append(a.words, w)
		names, e := dict.Hang(d, name)
		answers(t, e, api.OK)
		a.names = append(a.names, names)
		defs, e := dict.Defs(d)
		answers(t, e, api.OK)
		a.defs = append(a.defs, defs)
	}
	answers(t, dict.Check(d), api.OK)
	return a
}

// shares gathers the places of all that was answered, and answers whether one of them was there before.
func (p places) shares(a answered) (again bool) {
	for _, d := range a.dicts {
		again = p.dict(d) || again
	}
	for _, w := range a.words {
		again = p.items(w.Def.Body) || again
	}
	for _, names := range a.names {
		again = met(p, names) || again
	}
	for _, defs := range a.defs {
		again = met(p, defs) || again
		for _, d := range defs {
			again = p.items(d.Body) || again
		}
	}
	return again
}

func (a answered) spoil() {
	for _, d := range a.dicts {
		spoilDict(d)
	}
	for _, w := range a.words {
		spoilItems(w.Def.Body)
	}
	for _, names := range a.names {
		fill(names, "spoilt")
	}
	for _, defs := range a.defs {
		for _, d := range defs {
			spoilItems(d.Body)
		}
		fill(defs, made("spoilt", 1, 1))
	}
}

func (a answered) tell() string {
	told := tellAll(a.dicts) + fmt.Sprint(a.names)
	for _, w := range a.words {
		told += "\n" + tellWord(w)
	}
	for _, defs := range a.defs {
		for _, d := range defs {
			told += "\n" + tellDef(d)
		}
	}
	return told
}

func TestCallsShareNothing(t *testing.T) {
	d := roomy()
	if dict.Check(d) != api.OK {
		t.Fatalf("the dictionary is not sound")
	}
	body := roomy().Words[0].Def.Body
	more := append(make([]string, 0, 4), "a", "c", "spare")[:2]
	before := func() string { return room(d) + tellRoomOfItems(body) + fmt.Sprint(more[:cap(more)]) }
	was := before()
	p := places{}
	p.dict(d)
	p.items(body)
	met(p, more)
	first, second := ask(t, d, made("am", 0, 4, body...), more), ask(t, d, made("am", 0, 4, body...), more)
	if before() != was {
		t.Errorf("what was handed in has changed")
	}
	told := first.tell()
	if p.shares(first) || p.shares(second) {
		t.Errorf("a list that is answered is another's, too")
	}
	second.spoil()
	if before() != was || first.tell() != told {
		t.Errorf("what was handed in, or another answer, changes with an answer")
	}
	spoilDict(d)
	spoilItems(body)
	fill(more, "spoilt")
	if first.tell() != told {
		t.Errorf("an answer changes with what was handed in")
	}
}

// What is refused has changed nothing of what was handed in either.
func TestRefusalsChangeNothing(t *testing.T) {
	d := roomy()
	was := room(d)
	more := append(make([]string, 0, 4), "d", "b", "a", "a")[:3]
	dict.Vocab(d, "a", more)
	dict.Vocab(d, "x", more[:4])
	dict.Use(d, "c", "a")
	dict.Use(d, "a", "c")
	dict.Forget(d, "aa")
	dict.Forget(d, "none")
	dict.Define(d, "a", made("aa", 0, 0))
	dict.Define(d, "a", made("am", 0, 1))
	dict.Define(d, "a", made("am", 0, 0, call("none")))
	dict.Define(d, "b", made("aa", 0, 0))
	dict.Hang(d, "none")
	dict.Lookup(d, "none")
	if room(d) != was || fmt.Sprint(more[:4]) != "[d b a a]" {
		t.Errorf("what was handed in has changed")
	}
}

func TestBooksKeepCopies(t *testing.T) {
	shared := roomy()
	past := append(make([]api.Dict, 0, 5), shared, some(), shared, version(9))[:3]
	future := append(make([]api.Dict, 0, 4), shared, version(3), shared, version(9))[:2]
	was := room(shared) + rooms(past) + rooms(future)
	b, e := dict.Open(shared, past, future, 4)
	answers(t, e, api.OK)
	answers(t, b.Set(shared), api.OK)
	answers(t, b.Undo(), api.OK)
	answers(t, b.Undo(), api.OK)
	if room(shared)+rooms(past)+rooms(future) != was {
		t.Errorf("what was handed in has changed")
	}
	p := places{}
	p.dict(shared)
	p.dicts(past)
	p.dicts(future)
	told := tellDict(b.Dict())
	before, behind := b.Lists()
	lists := tellAll(before) + tellAll(behind)
	if len(before) == 0 || len(behind) != 2 {
		t.Errorf("Lists: %d and %d dictionaries", len(before), len(behind))
	}
	again, further := b.Lists()
	for i, shares := range []bool{p.dict(b.Dict()), p.dict(b.Dict()), p.dicts(before), p.dicts(behind), p.dicts(again), p.dicts(further)} {
		if shares {
			t.Errorf("a list of answer %d is another's, too", i)
		}
	}
	spoilDict(shared)
	spoilDicts(past)
	spoilDicts(future)
	spoilDict(b.Dict())
	spoilDicts(before)
	spoilDicts(behind)
	before, behind = b.Lists()
	if tellDict(b.Dict()) != told || tellAll(before)+tellAll(behind) != lists {
		t.Errorf("the book has changed with what was handed in or answered")
	}
	for _, turn := range []func() api.Errno{b.Redo, b.Redo, b.Undo, b.Undo, b.Undo, b.Undo, b.Undo} {
		turn()
		if e := dict.Check(b.Dict()); e != api.OK {
			t.Errorf("a dictionary of the book is not sound any more: %s", tellDict(b.Dict()))
		}
	}
}

// What a book is opened with is all copied, be it turned to or not.
func TestOpenKeepsCopies(t *testing.T) {
	now, past, future := roomy(), dicts(some(), roomy()), dicts(roomy(), version(3))
	told := tellDict(now) + tellAll(past) + tellAll(future)
	b, e := dict.Open(now, past, future, 2)
	answers(t, e, api.OK)
	spoilDict(now)
	spoilDicts(past)
	spoilDicts(future)
	before, behind := b.Lists()
	if tellDict(b.Dict())+tellAll(before)+tellAll(behind) != told {
		t.Errorf("the book has changed with what was handed in")
	}
}

// R5: nothing is kept from call to call.
func TestNothingIsKept(t *testing.T) {
	for range 3 {
		d, e := dict.Define(some(), "a", def(t, ": m ( -- ) ;"))
		answers(t, e, api.OK)
		_, e = dict.Lookup(d, "m")
		answers(t, e, api.OK)
		_, e = dict.Lookup(some(), "m")
		answers(t, e, api.ErrNone)
		_, e = dict.Define(some(), "a", def(t, ": n ( -- ) m ;"))
		answers(t, e, api.ErrName)
		_, e = dict.Vocab(some(), "m", nil)
		answers(t, e, api.OK)
		if d := dict.New(); len(d.Vocabs)+len(d.Words) != 0 {
			t.Errorf("New: %s", tellDict(d))
		}
	}
}
