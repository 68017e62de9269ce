package load_test

import (
	"fmt"
	"slices"
	"strings"
	"testing"

	"quire/api"
	"quire/dict"
	"quire/load"
)

// R4: memory

// roomyDict answers a dictionary whose lists have spare room, and in which one list stands several times.
func roomyDict() api.Dict {
	uses := append(make([]string, 0, 4), "a", "b", "spare")[:2]
	code := append(make([]api.Item, 0, 4), push(api.Int{N: 1}), call("spare"))[:1]
	values := append(make([]api.Value, 0, 4), api.Quot{Items: code}, api.Quot{Items: code}, api.Bool{})[:2]
	body := append(make([]api.Item, 0, 6), push(api.List{Items: values}), push(api.List{Items: values}), push(api.Quot{Items: code}), push(api.Quot{}), call("spare"))[:4]
	words := append(make([]api.Word, 0, 4), api.Word{Vocab: "a", Def: def("one", 0, 4, body...)}, api.Word{Vocab: "b", Def: def("two", 0, 1, code...)}, api.Word{Vocab: "spare"})[:2]
	words[0].Def.Body = body
	vocabs := append(make([]api.Vocab, 0, 6), api.Vocab{Name: "a", Uses: uses[:0]}, api.Vocab{Name: "b", Uses: uses[:1]}, api.Vocab{Name: "c", Uses: uses}, api.Vocab{Name: "spare"})[:3]
	return api.Dict{Vocabs: vocabs, Words: words}
}

// roomyList answers manifests whose lists have spare room, and some of which share one list.
func roomyList() []api.Manifest {
	d := roomyDict()
	body := d.Words[0].Def.Body
	defs := append(make([]api.Def, 0, 4), def("x", 0, 4), def("y", 0, 4), def("spare", 0, 0))[:2]
	defs[0].Body, defs[1].Body = body, body
	uses := d.Vocabs[2].Uses
	more := append(make([]api.Def, 0, 4), def("z", 0, 3), def("z", 0, 4), def("spare", 0, 0))[:2]
	more[0].Body, more[1].Body = body[:3], body
	return append(make([]api.Manifest, 0, 6), api.Manifest{Name: "f", Uses: append(slices.Clone(uses), "e"), Defs: more}, api.Manifest{Name: "e", Uses: uses, Defs: defs}, api.Manifest{Name: "d", Uses: uses}, vocab("spare"))[:3]
}

// roomOf tells a value with the spare room of its lists.
func roomOf(v api.Value) string {
	switch x := v.(type) {
	case api.List:
		told := fmt.Sprint("List ", len(x.Items))
		for _, v := range x.Items[:cap(x.Items)] {
			told += " (" + roomOf(v) + ")"
		}
		return told
	case api.Quot:
		return "Quot" + roomOfItems(x.Items)
	}
	return fmt.Sprintf("%#v", v)
}

func roomOfItems(items []api.Item) string {
	told := fmt.Sprint(len(items))
	for _, item := range items[:cap(items)] {
		if x, ok := item.(api.Push); ok {
			told += " (" + roomOf(x.V) + ")"
			continue
		}
		told += fmt.Sprintf(" %#v", item)
	}
	return told
}

func roomOfDict(d api.Dict) string {
	told := fmt.Sprint(len(d.Vocabs), len(d.Words))
	for _, v := range d.Vocabs[:cap(d.Vocabs)] {
		told += fmt.Sprintf("\n%q %d %q", v.Name, len(v.Uses), v.Uses[:cap(v.Uses)])
	}
	for _, w := range d.Words[:cap(d.Words)] {
		told += fmt.Sprintf("\n%q %q %v %s", w.Vocab, w.Def.Name, w.Def.Effect, roomOfItems(w.Def.Body))
	}
	return told
}

func roomOfList(list []api.Manifest) string {
	told := fmt.Sprint(len(list))
	for _, m := range list[:cap(list)] {
		told += fmt.Sprintf("\n%q %d %q %d", m.Name, len(m.Uses), m.Uses[:cap(m.Uses)], len(m.Defs))
		for _, d := range m.Defs[:cap(m.Defs)] {
			told += fmt.Sprintf("\n  %q %v %s", d.Name, d.Effect, roomOfItems(d.Body))
		}
	}
	return told
}

// fill writes over a list, spare room included.
func fill[T any](list []T, with T) {
	all := list[:cap(list)]
	for i := range all {
		all[i] = with
	}
}

// spoil writes over all lists of a value, from the innermost on.
func spoil(v api.Value) {
	switch x := v.(type) {
	case api.List:
		for _, v := range x.Items {
			spoil(v)
		}
		fill(x.Items, api.Value(api.Str{S: "spoilt"}))
	case api.Quot:
		spoilItems(x.Items)
	}
}

func spoilItems(items []api.Item) {
	for _, item := range items {
		if x, ok := item.(api.Push); ok {
			spoil(x.V)
		}
	}
	fill(items, call("spoilt"))
}

func spoilDict(d api.Dict) {
	for _, v := range d.Vocabs {
		fill(v.Uses, "spoilt")
	}
	for _, w := range d.Words {
		spoilItems(w.Def.Body)
	}
	fill(d.Vocabs, api.Vocab{Name: "spoilt"})
	fill(d.Words, api.Word{Vocab: "spoilt"})
}

func spoilList(list []api.Manifest) {
	for _, m := range list {
		for _, d := range m.Defs {
			spoilItems(d.Body)
		}
		fill(m.Uses, "spoilt")
		fill(m.Defs, def("spoilt", 1, 1))
	}
	fill(list, vocab("spoilt"))
}

// places counts how many lists have each place, spare room included.
type places map[any]int

func met[T any](p places, list []T) {
	all := list[:cap(list)]
	for i := range all {
		p[&all[i]]++
	}
}

func (p places) value(v api.Value) {
	switch x := v.(type) {
	case api.List:
		met(p, x.Items)
		for _, v := range x.Items {
			p.value(v)
		}
	case api.Quot:
		p.items(x.Items)
	}
}

func (p places) items(items []api.Item) {
	met(p, items)
	for _, item := range items {
		if x, ok := item.(api.Push); ok {
			p.value(x.V)
		}
	}
}

func (p places) dict(d api.Dict) {
	met(p, d.Vocabs)
	met(p, d.Words)
	for _, v := range d.Vocabs {
		met(p, v.Uses)
	}
	for _, w := range d.Words {
		p.items(w.Def.Body)
	}
}

func (p places) apart(t *testing.T) {
	t.Helper()
	for _, n := range p {
		if n > 1 {
			t.Fatalf("%d lists share a place", n)
		}
	}
}

// wants answers what is asked for, with spare room.
func wants(all ...string) []string {
	return append(append(make([]string, 0, len(all)+2), all...), "spare")[:len(all)]
}

func TestRoomy(t *testing.T) {
	one := "{ [ 1 ] [ 1 ] } { [ 1 ] [ 1 ] } [ 1 ] [ ] ;"
	there := dictOf(t, "a", "b uses a", "c uses a b", "a : one ( -- v v v v ) "+one, "b : two ( -- n ) 1 ;")
	loads(t, roomyDict(), nil, nil, there)
	loads(t, there, roomyList(), names("f", "d"), dictOf(t, "a", "b uses a", "c uses a b", "d uses a b", "e uses a b", "f uses a b e",
		"a : one ( -- v v v v ) "+one, "b : two ( -- n ) 1 ;", "e : x ( -- v v v v ) "+one, "e : y ( -- v v v v ) "+one, "f : z ( -- v v v v ) "+one), "d", "e", "f")
}

func TestNothingIsShared(t *testing.T) {
	for _, asked := range [][]string{nil, names("c"), names("d"), names("f", "d", "f")} {
		d, list, want := roomyDict(), roomyList(), wants(asked...)
		before := func() string { return roomOfDict(d) + roomOfList(list) + fmt.Sprintf("%q", want[:cap(want)]) }
		was := before()
		one, order, _, _ := load.Load(d, list, want)
		other, more, _, _ := load.Load(d, list, want)
		plan, _, _ := load.Plan(d, list, want)
		again, _, _ := load.Plan(d, list, want)
		if before() != was {
			t.Errorf("what was handed in has changed")
		}
		p := places{}
		p.dict(one)
		p.dict(other)
		for _, all := range [][]string{order, more, plan, again} {
			met(p, all)
		}
		p.apart(t)
		told := tell(one) + fmt.Sprint(order, plan)
		spoilDict(other)
		fill(more, "spoilt")
		fill(again, "spoilt")
		if before() != was || tell(one)+fmt.Sprint(order, plan) != told {
			t.Errorf("what was handed in, or an answer, changes with another answer")
		}
		spoilDict(d)
		spoilList(list)
		fill(want, "spoilt")
		if tell(one)+fmt.Sprint(order, plan) != told {
			t.Errorf("an answer changes with what was handed in")
		}
	}
}

func TestRefusalsChangeNothing(t *testing.T) {
	for _, more := range []api.Manifest{vocab("1"), vocab("f"), using("g", "g"), using("g", "none"), vocab("g", def("x", 0, 0)), vocab("g", def("u", 0, 0), def("one", 0, 0)), using("g", "a", "a")} {
		d, list, want := roomyDict(), append(roomyList(), more), wants("f", "g", "d")
		before := func() string { return roomOfDict(d) + roomOfList(list) + fmt.Sprintf("%q", want[:cap(want)]) }
		was := before()
		_, _, e := load.Plan(d, list, want)
		_, _, _, err := load.Load(d, list, want)
		if before() != was || err == api.OK || e != api.OK && e != err {
			t.Errorf("with %v: %d, %d, and what was handed in is %s, it was %s", more, e, err, short(before()), short(was))
		}
	}
}

// R5: nothing is kept from call to call.
func TestCallsAreApart(t *testing.T) {
	list := read(t, example)
	made := dictOf(t, "a", "b uses a", "b : sq ( x -- x ) dup * ;")
	for range 3 {
		refuses(t, dict.New(), list, names("c"), "c", api.ErrNone)
		loads(t, dict.New(), list, names("b"), made, "a", "b")
		refuses(t, made, append(list, using("a")), names("b"), "a", api.ErrTwice)
		loads(t, dict.New(), list[:1], names("a"), dictOf(t, "a"), "a")
		fails(t, dict.New(), read(t, strings.Replace(example, "dup *", "foo", 1)), names("b"), "b", api.ErrName)
		loads(t, made, list, names("b"), made)
		refuses(t, api.Dict{Vocabs: make([]api.Vocab, 1)}, list, names("b"), "", api.ErrForm)
		loads(t, dict.New(), nil, nil, dict.New())
	}
}
