package effect_test

import (
	"fmt"
	"slices"
	"testing"

	"quire/api"
	"quire/effect"
)

// R4: what is handed in stays as it is, spare room included

func TestWhatIsHandedInStays(t *testing.T) {
	inner := append(make([]api.Item, 0, 9), call("dup"), call("drop"))
	list := append(make([]api.Item, 0, 20), push(num(1)), push(api.Quot{Items: inner}), call("dup"), call("rot"), call("swap"), call("call"), push(api.Quot{Items: inner}), call("dip"))
	all := append(make([]api.Known, 0, 20), known("a", 1, 1), known("a", 2, 2), known("dup", 3, 3))
	for _, rest := range [][]api.Item{inner[len(inner):cap(inner)], list[len(list):cap(list)]} {
		for i := range rest {
			rest[i] = call("spare")
		}
	}
	for i := range all[len(all):cap(all)] {
		all[len(all):cap(all)][i] = known("spare", i, i)
	}
	told := func() string { return fmt.Sprint(list[:cap(list)], inner[:cap(inner)], all[:cap(all)]) }
	before := told()
	for range 2 {
		effect.Of(list, all)
		effect.Of(append(slices.Clone(list), call("foo")), all)
		effect.Of(list[:len(list)-3], all)
	}
	if told() != before {
		t.Errorf("what was handed in has changed: %s, and was %s", told(), before)
	}
}

// R5: nothing of a call is seen in the next

func TestNothingIsKept(t *testing.T) {
	for range 3 {
		fails(t, "foo", api.ErrName)
		fails(t, "call", api.ErrEffect)
		fails(t, "[ dup call ] dup call", api.ErrLarge)
		has(t, through(t, api.MaxItems), 0, 0)
		has(t, "sq two", 1, 3)
		if x, e := effect.Of(items(call("sq")), nil); x != (api.Effect{}) || e != api.ErrName {
			t.Errorf("Of(sq): %v, %d", x, e)
		}
		if x, e := effect.Of(items(call("sq")), []api.Known{known("sq", 3, 2)}); x != (api.Effect{In: 3, Out: 2}) || e != api.OK {
			t.Errorf("Of(sq): %v, %d", x, e)
		}
	}
}
