package manifest_test

import (
	"fmt"
	"slices"
	"strings"
	"testing"

	"quire/api"
	"quire/manifest"
)

// R4: memory

const rich = "vocab a\nuses b c d\n: x ( -- ) 1 [ y [ z ] { 1 { 2 } } ] { } { [ ] [ y ] } y ;\n: y ( -- ) z z z ;\n: z ( -- ) ;\nend\nvocab b\nuses c d e f g\nend\nvocab c\n: w ( -- ) [ [ ] ] ;\nend\n"

// places holds the addresses of all places of lists, spare room included.
type places struct {
	lists  int
	places map[any]int
}

// add counts how many lists have each place of a list.
func add[T any](p *places, list []T) {
	if p.places == nil {
		p.places = map[any]int{}
	}
	if cap(list) > 0 {
		p.lists++
	}
	whole := list[:cap(list)]
	for i := range whole {
		p.places[&whole[i]]++
	}
}

func (p *places) manifests(list []api.Manifest) {
	add(p, list)
	for _, m := range list {
		add(p, m.Uses)
		add(p, m.Defs)
		for _, d := range m.Defs {
			p.items(d.Body)
		}
	}
}

func (p *places) items(list []api.Item) {
	add(p, list)
	for _, item := range list {
		if x, ok := item.(api.Push); ok {
			p.value(x.V)
		}
	}
}

func (p *places) value(v api.Value) {
	switch x := v.(type) {
	case api.Quot:
		p.items(x.Items)
	case api.List:
		add(p, x.Items)
		for _, v := range x.Items {
			p.value(v)
		}
	}
}

func (p *places) vocabs(list []api.Vocab) {
	add(p, list)
	for _, v := range list {
		add(p, v.Uses)
	}
}

// apart holds that there are so many lists, and that no two of them have a place in common.
func (p *places) apart(t *testing.T, lists int) {
	t.Helper()
	if p.lists != lists {
		t.Errorf("%d lists, want %d", p.lists, lists)
	}
	for _, n := range p.places {
		if n > 1 {
			t.Fatalf("%d lists share a place", n)
		}
	}
}

func parsed(t *testing.T, s string) []api.Manifest {
	t.Helper()
	l, _, e := manifest.Parse(s)
	if e != api.OK {
		t.Fatalf("Parse(%q): %d", s, e)
	}
	return l
}

func TestListsOfAnswersAreApart(t *testing.T) {
	var all places
	one, other := parsed(t, rich), parsed(t, rich)
	all.manifests(one)
	all.manifests(other)
	vocabs, more := manifest.Vocabs(one), manifest.Vocabs(one)
	all.vocabs(vocabs)
	all.vocabs(more)
	all.apart(t, 36)
	if tell(one) != tell(other) || vocabs[0].Name != "a" || more[1].Uses[4] != "g" {
		t.Errorf("%s, %s, %q, %q", tell(one), tell(other), vocabs, more)
	}
}

// roomy answers manifests whose lists have spare room, and some of which share one list.
func roomy() []api.Manifest {
	uses := append(names("c", "b", "c"), "1", "")[:3]
	body := append([]api.Item{push(list(api.Bool{})), call("x")}, nil, call("t"))[:2]
	all := append(defs(def("x", 1, 0, body...), def("y", 0, 0, body[:1]...), def("z", 0, 0, push(quot(body...)))), def("1", -1, 0))[:3]
	return append(manifests(using("b", uses, all...), using("a", uses[:1], all[1:]...), using("a", uses[:0])), vocab("1"))[:3]
}

// told writes down what was handed in, spare room included.
func told(list []api.Manifest) string {
	var b strings.Builder
	for _, m := range list[:cap(list)] {
		fmt.Fprintf(&b, "%q %d %q %d\n", m.Name, len(m.Uses), m.Uses[:cap(m.Uses)], len(m.Defs))
		for _, d := range m.Defs[:cap(m.Defs)] {
			fmt.Fprintf(&b, "%q %d %d %#v\n", d.Name, d.Effect, len(d.Body), d.Body[:cap(d.Body)])
		}
	}
	return b.String()
}

func TestNothingHandedInChanges(t *testing.T) {
	for _, more := range [][]api.Manifest{nil, manifests(vocab("1")), manifests(vocab("a", def("t", 0, 0))), slices.Repeat(manifests(vocab("a")), api.MaxText)} {
		l := append(roomy(), more...)
		before := told(l)
		_, _ = manifest.Text(l)
		vocabs := manifest.Vocabs(l)
		if told(l) != before {
			t.Errorf("what was handed in changes to %s", short(told(l)))
		}
		for _, v := range vocabs {
			uses := v.Uses[:cap(v.Uses)]
			for i := range uses {
				uses[i] = "spoilt"
			}
		}
		if told(l) != before {
			t.Errorf("the vocabularies share a list with what was handed in")
		}
	}
}

func TestListsThatAreShared(t *testing.T) {
	writes(t, "vocab b\nuses c b c\n: x ( x -- ) { f } x ;\n: y ( -- ) { f } ;\n: z ( -- ) [ { f } x ] ;\nend\nvocab a\nuses c\n: y ( -- ) { f } ;\n: z ( -- ) [ { f } x ] ;\nend\nvocab a\nend\n", roomy()...)
	var all places
	all.vocabs(manifest.Vocabs(roomy()))
	all.apart(t, 3)
}

// What was answered stays, though what was handed in changes.
func TestAnswersStay(t *testing.T) {
	l := roomy()
	vocabs := manifest.Vocabs(l)
	l[0].Uses[0], l[1].Name = "spoilt", "spoilt"
	if vocabs[0].Uses[0] != "c" || vocabs[1].Uses[0] != "c" || vocabs[1].Name != "a" {
		t.Errorf("the vocabularies are %q", vocabs)
	}
}

// R5: nothing is kept from call to call.
func TestCallsAreApart(t *testing.T) {
	for range 3 {
		faulty(t, "vocab a\nuses b\n", 3)
		reads(t, "vocab b\nend\n", vocab("b"))
		refuses(t, strings.Repeat("\n", api.MaxText+1), 0, api.ErrLarge)
		reads(t, "\n")
		refusesText(t, api.ErrForm, vocab("a"), vocab("1"))
		writes(t, "vocab b\nend\n", vocab("b"))
		refusesText(t, api.ErrLarge, slices.Repeat(manifests(vocab("a")), api.MaxText)...)
		writes(t, "")
	}
}
