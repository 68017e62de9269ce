package link_test

import (
	"fmt"
	"testing"

	"quire/api"
	"quire/link"
)

// R4: memory

// roomyItems answers items whose lists have spare room, and in which one list stands several times.
func roomyItems() []api.Item {
	part := append(make([]api.Item, 0, 4), push(num(1)), call("spare"))[:1]
	values := append(make([]api.Value, 0, 4), api.Quot{Items: part}, api.Quot{Items: part}, str("spare"))[:2]
	return append(make([]api.Item, 0, 8), push(api.List{Items: values}), push(api.List{Items: values}), push(api.Quot{Items: part}), call("drop"), call("sq"), push(list()), call("spare"))[:6]
}

// roomyOps answers the code of such items, likewise.
func roomyOps() []api.Op {
	all := append(make([]api.Op, 0, 9), api.Op{}, api.Op{}, api.Op{}, opPrim(1), opCall(1), opPush(list()), opPrim(99))[:6]
	for i, item := range roomyItems()[:3] {
		all[i] = opPush(item.(api.Push).V)
	}
	all[1] = all[0]
	return all
}

// roomyCodes answers codes that share one list of operations with spare room.
func roomyCodes() []api.Code {
	all := roomyOps()
	return append(make([]api.Code, 0, 5), api.Code{Name: "quad", Ops: all}, api.Code{Name: "sq", Ops: all[:5]}, api.Code{Name: "u", Ops: all}, api.Code{Name: "spare"})[:3]
}

// roomyDict answers a dictionary of words that share one body with spare room.
func roomyDict() api.Dict {
	body := roomyItems()[:4]
	return api.Dict{
		Vocabs: append(make([]api.Vocab, 0, 3), api.Vocab{Name: "a"}, api.Vocab{Name: "spare"})[:1],
		Words: append(make([]api.Word, 0, 4), api.Word{Vocab: "a", Def: api.Def{Name: "sq", Effect: api.Effect{Out: 2}, Body: body}},
			api.Word{Vocab: "a", Def: api.Def{Name: "u", Effect: api.Effect{Out: 2}, Body: body}}, api.Word{Vocab: "spare"})[:2],
	}
}

// roomOf tells a value with the spare room of its lists.
func roomOf(v api.Value) string {
	switch x := v.(type) {
	case api.List:
		told := fmt.Sprint("List ", len(x.Items))
		for _, v := range x.Items[:cap(x.Items)] {
			told += " (" + roomOf(v) + ")"
		}
		return told
	case api.Quot:
		return "Quot " + roomOfItems(x.Items)
	}
	return fmt.Sprintf("%#v", v)
}

func roomOfItems(all []api.Item) string {
	told := fmt.Sprint(len(all))
	for _, item := range all[:cap(all)] {
		if x, ok := item.(api.Push); ok {
			told += " (" + roomOf(x.V) + ")"
			continue
		}
		told += fmt.Sprintf(" %#v", item)
	}
	return told
}

func roomOfOps(all []api.Op) string {
	told := fmt.Sprint(len(all))
	for _, op := range all[:cap(all)] {
		told += fmt.Sprint(" ", op.Kind, " ", op.N, " ", roomOf(op.V))
	}
	return told
}

func roomOfCodes(all []api.Code) string {
	told := fmt.Sprint(len(all))
	for _, c := range all[:cap(all)] {
		told += fmt.Sprintf("\n%q %s", c.Name, roomOfOps(c.Ops))
	}
	return told
}

func roomOfDict(d api.Dict) string {
	told := fmt.Sprint(len(d.Vocabs), len(d.Words), d.Vocabs[:cap(d.Vocabs)])
	for _, w := range d.Words[:cap(d.Words)] {
		told += fmt.Sprintf("\n%q %q %v %s", w.Vocab, w.Def.Name, w.Def.Effect, roomOfItems(w.Def.Body))
	}
	return told
}

// fill writes over a list, spare room included.
func fill[T any](list []T, with T) {
	all := list[:cap(list)]
	for i := range all {
		all[i] = with
	}
}

// spoil writes over all lists of a value, from the innermost on.
func spoil(v api.Value) {
	switch x := v.(type) {
	case api.List:
		for _, v := range x.Items {
			spoil(v)
		}
		fill(x.Items, str("spoilt"))
	case api.Quot:
		spoilItems(x.Items)
	}
}

func spoilItems(all []api.Item) {
	for _, item := range all {
		if x, ok := item.(api.Push); ok {
			spoil(x.V)
		}
	}
	fill(all, call("spoilt"))
}

func spoilOps(all []api.Op) {
	for _, op := range all {
		spoil(op.V)
	}
	fill(all, opPrim(77))
}

func spoilCodes(all []api.Code) {
	for _, c := range all {
		spoilOps(c.Ops)
	}
	fill(all, code("spoilt", opCall(77)))
}

// places is where parts of lists stand, spare room included.
type places map[any]int

// met gathers the places of a list.
func met[T any](p places, list []T) {
	all := list[:cap(list)]
	for i := range all {
		p[&all[i]]++
	}
}

func (p places) value(v api.Value) {
	switch x := v.(type) {
	case api.List:
		met(p, x.Items)
		for _, v := range x.Items {
			p.value(v)
		}
	case api.Quot:
		p.items(x.Items)
	}
}

func (p places) items(all []api.Item) {
	met(p, all)
	for _, item := range all {
		if x, ok := item.(api.Push); ok {
			p.value(x.V)
		}
	}
}

func (p places) ops(all []api.Op) {
	met(p, all)
	for _, op := range all {
		p.value(op.V)
	}
}

func (p places) codes(all []api.Code) {
	met(p, all)
	for _, c := range all {
		p.ops(c.Ops)
	}
}

// handed is all that calls are handed.
type handed struct {
	d     api.Dict
	codes []api.Code
	items []api.Item
	ops   []api.Op
}

func (h handed) room() string {
	return roomOfDict(h.d) + roomOfCodes(h.codes) + roomOfItems(h.items) + roomOfOps(h.ops)
}

func (h handed) spoil() {
	for _, w := range h.d.Words {
		spoilItems(w.Def.Body)
	}
	fill(h.d.Words, api.Word{Vocab: "spoilt"})
	fill(h.d.Vocabs, api.Vocab{Name: "spoilt"})
	spoilCodes(h.codes)
	spoilItems(h.items)
	spoilOps(h.ops)
}

// answered is all that calls answer.
type answered struct {
	codes []api.Code
	ops   []api.Op
	items []api.Item
}

func (a answered) room() string {
	return roomOfCodes(a.codes) + roomOfOps(a.ops) + roomOfItems(a.items)
}

// ask makes all calls; each has to go well.
func ask(t *testing.T, h handed) (a answered) {
	t.Helper()
	var e1, e2, e3 api.Errno
	a.codes, e1 = link.Link(h.d)
	a.ops, e2 = link.Ops(h.codes, h.items)
	a.items, e3 = link.Back(h.codes, h.ops)
	if e := link.Check(h.codes); e != api.OK || e1 != api.OK || e2 != api.OK || e3 != api.OK || !link.Same(h.codes, h.codes) {
		t.Fatalf("Check: %d, Link: %d, Ops: %d, Back: %d", e, e1, e2, e3)
	}
	return a
}

func roomy() handed {
	return handed{roomyDict(), roomyCodes(), roomyItems(), roomyOps()}
}

func TestMemory(t *testing.T) {
	h := roomy()
	was := h.room()
	one, other := ask(t, h), ask(t, h)
	if h.room() != was {
		t.Errorf("what was handed in is changed")
	}
	p := places{}
	p.items(h.items)
	p.codes(h.codes)
	p.ops(h.ops)
	for _, w := range h.d.Words {
		p.items(w.Def.Body)
	}
	for at := range p {
		p[at] = 1
	}
	for _, a := range []answered{one, other} {
		p.codes(a.codes)
		p.ops(a.ops)
		p.items(a.items)
	}
	for _, n := range p {
		if n > 1 {
			t.Errorf("an answer shares memory with another, with itself or with what was handed in")
			break
		}
	}
	told := one.room()
	spoilCodes(other.codes)
	spoilOps(other.ops)
	spoilItems(other.items)
	if h.room() != was || one.room() != told {
		t.Errorf("what was handed in, or an answer, changes with another answer")
	}
	h.spoil()
	if one.room() != told {
		t.Errorf("an answer changes with what was handed in")
	}
}

func TestRefusalsChangeNothing(t *testing.T) {
	for _, change := range []func(*handed){
		func(h *handed) { h.codes[2].Name = "a" },
		func(h *handed) { h.codes[2].Ops = append(roomyOps(), opPrim(52)) },
		func(h *handed) { h.codes, h.items = h.codes[:2], append(h.items, call("u")) },
		func(h *handed) { h.items, h.ops = append(h.items, push(box(1))), append(h.ops, opPush(box(1))) },
		func(h *handed) { h.items, h.ops = append(h.items, nil), append(h.ops, opCall(3)) },
	} {
		h := roomy()
		change(&h)
		h.d.Words[1].Def.Name = "sq"
		was := h.room()
		_, e1 := link.Link(h.d)
		_, e2 := link.Ops(h.codes, h.items)
		_, e3 := link.Back(h.codes, h.ops)
		link.Check(h.codes)
		link.Same(h.codes, roomyCodes())
		if h.room() != was || e1 == api.OK || e2 == api.OK {
			t.Errorf("Link: %d, Ops: %d, Back: %d, and what was handed in is %s", e1, e2, e3, short(h.room()))
		}
	}
}
