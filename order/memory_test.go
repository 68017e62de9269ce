package order_test

import (
	"fmt"
	"slices"
	"testing"

	"quire/api"
	"quire/order"
)

// R4: memory

// withRoom answers names in a list that has spare room, in which names stand, too.
func withRoom(all ...string) []string {
	return append(slices.Clone(all), "spare", "a", "spare")[:len(all)]
}

// roomy answers a list with spare room, two of whose Uses stand in one list, and what to ask of it.
func roomy(more ...api.Vocab) (list []api.Vocab, want, have []string) {
	shared := withRoom("d", "c")
	list = append(vocabs(api.Vocab{Name: "z", Uses: shared}, api.Vocab{Name: "b", Uses: shared[:1]}, api.Vocab{Name: "a", Uses: withRoom("z", "b", "h")}, uses("d"), uses("c"), uses("h")), more...)
	list = append(list, uses("spare", "spare"), uses("a"))[:len(list)]
	return list, withRoom("z", "a", "b", "a"), withRoom("h", "y", "h")
}

// told writes down what was handed in, spare room included.
func told(list []api.Vocab, want, have []string) string {
	text := fmt.Sprint(len(list), want[:cap(want)], have[:cap(have)])
	for _, v := range list[:cap(list)] {
		text += fmt.Sprintf("\n%q %d %q", v.Name, len(v.Uses), v.Uses[:cap(v.Uses)])
	}
	return text
}

// spoil writes over a list, spare room included.
func spoil(list []string) {
	all := list[:cap(list)]
	for i := range all {
		all[i] = "spoilt"
	}
}

// What is handed in is left as it is, whatever is answered.
func TestNothingHandedInChanges(t *testing.T) {
	for _, c := range []struct {
		more []api.Vocab
		e    api.Errno
	}{
		{nil, api.OK},
		{vocabs(uses("x", "b")), api.OK},
		{vocabs(uses("b")), api.ErrTwice},
		{vocabs(uses("x", "c", "c")), api.ErrTwice},
		{vocabs(uses("w", "q")), api.ErrNone},
		{vocabs(uses("w", "w")), api.ErrCycle},
	} {
		list, want, have := roomy(c.more...)
		if c.e == api.ErrNone || c.e == api.ErrCycle {
			want = append(want, "w")
		}
		before := told(list, want, have)
		_, _, e := order.Sort(list, want, have)
		_, other := order.Levels(list)
		if e != c.e || other != c.e {
			t.Errorf("%v: %d, %d, want %d", c.more, e, other, c.e)
		}
		if after := told(list, want, have); after != before {
			t.Errorf("%v: it was\n%s\nand is\n%s", c.more, before, after)
		}
	}
}

// What is answered is a list of its own, spare room included.
func TestAnswersAreApart(t *testing.T) {
	list, want, have := roomy()
	before := told(list, want, have)
	out := names("c", "d", "b", "z", "a")
	sorts(t, list, want, have, out)
	one, _, _ := order.Sort(list, want, have)
	other, _, _ := order.Sort(list, want, have)
	spoil(one)
	if !slices.Equal(other, out) {
		t.Errorf("two orders share a list: %q", other)
	}
	if after := told(list, want, have); after != before {
		t.Errorf("it was\n%s\nand is\n%s", before, after)
	}
	sorts(t, list, want, have, out)
	// An order of one name that is wanted alone.
	only := withRoom("c")
	one, _, _ = order.Sort(list, only, nil)
	spoil(one)
	if !slices.Equal(only[:cap(only)], withRoom("c")[:cap(only)]) {
		t.Errorf("the order is what was wanted: %q", only[:cap(only)])
	}
}

func TestLevelsAreApart(t *testing.T) {
	list, want, have := roomy()
	before := told(list, want, have)
	for i := range 3 {
		got, _ := order.Levels(list)
		other, _ := order.Levels(list)
		spoil(got[i])
		got = slices.Delete(got, i, i+1)
		rest := [][]string{{"c", "d", "h"}, {"b", "z"}, {"a"}}
		if !same(other, rest) || !same(got, slices.Delete(rest, i, i+1)) {
			t.Errorf("level %d spoils others: %q, %q", i, got, other)
		}
	}
	if after := told(list, want, have); after != before {
		t.Errorf("it was\n%s\nand is\n%s", before, after)
	}
}

func same(a, b [][]string) bool { return slices.EqualFunc(a, b, slices.Equal[[]string]) }

// What was answered stays, though what was handed in changes.
func TestAnswersStay(t *testing.T) {
	list, want, have := roomy()
	got, _, _ := order.Sort(list, want, have)
	all, _ := order.Levels(list)
	for _, v := range list {
		spoil(v.Uses)
	}
	spoil(want)
	spoil(have)
	for i := range list {
		list[i] = uses("spoilt")
	}
	if !slices.Equal(got, names("c", "d", "b", "z", "a")) || !same(all, [][]string{{"c", "d", "h"}, {"b", "z"}, {"a"}}) {
		t.Errorf("%q, %q", got, all)
	}
}
