package order_test

import (
	"fmt"
	"slices"
	"testing"

	"quire/api"
	"quire/order"
)

// R1, R8: lists of any length

const many = 100000

func name(i int) string { return fmt.Sprintf("v%06d", i) }

// chain answers vocabularies of which each uses the one behind it.
func chain(n int) (list []api.Vocab) {
	for i := range n - 1 {
		list = append(list, uses(name(i), name(i+1)))
	}
	return append(list, uses(name(n-1)))
}

func TestLongChain(t *testing.T) {
	list := chain(many)
	got, which, e := order.Sort(list, names(name(0)), nil)
	slices.Reverse(got)
	if len(got) != many || got[0] != name(0) || !slices.IsSorted(got) || which != "" || e != api.OK {
		t.Errorf("%d, %q, %d", len(got), which, e)
	}
	all, e := order.Levels(list)
	if len(all) != many || len(all[0]) != 1 || all[0][0] != name(many-1) || all[many-1][0] != name(0) || e != api.OK {
		t.Errorf("Levels: %d, %d", len(all), e)
	}
	refuses(t, list[:many-1], names(name(0)), nil, name(many-1), api.ErrNone)
	sorts(t, list, names(name(many-3)), names(name(many-1)), names(name(many-2), name(many-3)))
}

func TestLongCircle(t *testing.T) {
	list := chain(many)
	list[many-1].Uses = names(name(0))
	refuses(t, list, names(name(many/2)), nil, name(0), api.ErrCycle)
	list[many-1].Uses = names(name(many - 2))
	refuses(t, list, names(name(0)), nil, name(many-2), api.ErrCycle)
	noLevels(t, list, api.ErrCycle)
	// between two circles
	list[0].Uses = names(name(0), name(1))
	list[many-1].Uses = names(name(many - 1))
	sorts(t, list, names(name(0)), names(name(0)), nil)
	refuses(t, list, names(name(1)), nil, name(many-1), api.ErrCycle)
	refuses(t, list, names(name(0)), nil, name(0), api.ErrCycle)
}

func TestWideNet(t *testing.T) {
	hub := uses("hub")
	var list []api.Vocab
	for i := range many {
		hub.Uses = append(hub.Uses, name(many-1-i))
		list = append(list, uses(name(i), "base"))
	}
	list = append(list, hub, uses("base"))
	got, which, e := order.Sort(list, names("hub"), nil)
	if len(got) != many+2 || got[0] != "base" || got[many+1] != "hub" || !slices.IsSorted(got[1:many+1]) || which != "" || e != api.OK {
		t.Errorf("%d, %q, %d", len(got), which, e)
	}
	all, e := order.Levels(list)
	if len(all) != 3 || len(all[1]) != many || !slices.IsSorted(all[1]) || e != api.OK {
		t.Errorf("Levels: %d, %d", len(all), e)
	}
	list[many+1].Uses = names("hub")
	refuses(t, list, names(name(7)), nil, "base", api.ErrCycle)
}

// Each uses all behind it.
func TestFullNet(t *testing.T) {
	const n = 600
	var all []string
	for i := range n {
		all = append(all, name(i))
	}
	var list []api.Vocab
	for i := range n {
		list = append(list, uses(name(i), all[i+1:]...))
	}
	backward := slices.Clone(all)
	slices.Reverse(backward)
	sorts(t, list, all, nil, backward)
	if got, e := order.Levels(list); len(got) != n || e != api.OK {
		t.Errorf("Levels: %d, %d", len(got), e)
	}
	list[n-1].Uses = names(name(n / 2))
	refuses(t, list, all, nil, name(n/2), api.ErrCycle)
}
