package link_test

import (
	"slices"
	"strings"
	"testing"

	"quire/api"
	"quire/link"
)

// P18.1: Check

func TestSoundCodes(t *testing.T) {
	for _, all := range [][]api.Code{
		nil, codes(), known(),
		codes(code("a")), codes(code("B"), code("a"), code("aa"), code("b"), code("z"), code("é")),
		codes(code("duplicate"), code("f1"), code("true"), code("vocab")), codes(code(strings.Repeat("é", api.MaxName))),
		// Effects are not asked for, nor whether what is called ends.
		codes(code("a", opPrim(9)), code("b", opPrim(40), opCall(1), opCall(0), opCall(1))),
		codes(code("a", opCall(2)), code("b", opCall(0)), code("c", opCall(1))),
		codes(code("a", opPrim(0), opPrim(51), opPush(num(0)), opPush(list(quot(call("none"), call("a"), call("dup")))))),
		codes(code("a", opPush(quot(call("b"))), opPush(str("")), opPush(api.Bool{}), opPush(quot()), opPush(list()))),
	} {
		if e := link.Check(all); e != api.OK {
			t.Errorf("Check of %s: %d", tellCodes(all), e)
		}
		if _, e := link.Ops(all, items(push(num(1)), call("dup"))); e != api.OK {
			t.Errorf("Ops with %s: %d", tellCodes(all), e)
		}
		for _, c := range all {
			if _, e := link.Back(all, c.Ops); e != api.OK {
				t.Errorf("Back with %s: %d", tellCodes(all), e)
			}
		}
	}
}

// refusedEverywhere holds that all calls refuse codes, whatever else they are handed.
func refusedEverywhere(t *testing.T, bad []api.Code) {
	t.Helper()
	if e := link.Check(bad); e != api.ErrForm {
		t.Errorf("Check of %s: %d", short(tellCodes(bad)), e)
	}
	for _, all := range [][]api.Item{nil, items(call("dup")), items(call("foo")), items(nil), items(push(box(1)))} {
		refusesOps(t, bad, all, api.ErrForm)
	}
	for _, all := range [][]api.Op{nil, ops(opPush(num(1))), ops(opPrim(0)), ops(opCall(0)), ops(opPrim(52)), ops(api.Op{})} {
		refusesBack(t, bad, all)
	}
	sameAsUnsound(t, bad)
}

func TestNamesThatAreRefused(t *testing.T) {
	for _, name := range append(badNames(), strings.Fields(primitives)...) {
		refusedEverywhere(t, codes(code(name)))
		with := codes(code("a"), code("n"), code(name), code("é"))
		slices.SortFunc(with, func(a, b api.Code) int { return strings.Compare(a.Name, b.Name) })
		refusedEverywhere(t, with)
	}
	for _, all := range [][]api.Code{
		codes(code("a"), code("a")), codes(code("b"), code("a")), codes(code("a"), code("B")), codes(code("é"), code("z")),
		codes(code("a"), code("ab"), code("aa")), codes(code("a"), code("b"), code("a")), codes(code("a"), code("c"), code("c"), code("d")),
		make([]api.Code, 1), make([]api.Code, 3), append(known(), api.Code{}),
	} {
		refusedEverywhere(t, all)
	}
}

func TestCodesThatAreRefused(t *testing.T) {
	for _, bad := range badOps() {
		refusedEverywhere(t, codes(code("a", bad), code("b")))
		refusedEverywhere(t, codes(code("a"), code("b", bad)))
		refusedEverywhere(t, codes(code("a", opCall(1)), code("b", opPrim(0), bad, opPush(num(1)))))
	}
	// What is called has to be there, be it by a code of its own or by one behind.
	refusedEverywhere(t, codes(code("a", opCall(1))))
	refusedEverywhere(t, known()[:1])
}

// R1: lists that hold themselves are not sound, and calls with them end.
func TestValuesThatHoldThemselves(t *testing.T) {
	own := api.List{Items: make([]api.Value, 2)}
	own.Items[0], own.Items[1] = own, own
	within := api.Quot{Items: make([]api.Item, 2)}
	within.Items[0], within.Items[1] = push(list(within)), push(within)
	for _, v := range []api.Value{own, within, list(own), quot(push(own))} {
		refusedEverywhere(t, codes(code("a", opPush(v))))
		refusesBack(t, known(), ops(opPush(v)))
	}
}

// R1: whatever is handed in, calls answer.
func TestAnyArguments(t *testing.T) {
	long := make([]api.Op, 1<<16)
	for _, all := range append(append(sound(), unsound()...), make([]api.Code, 1<<16), codes(code("a", long...)), codes(api.Code{Name: strings.Repeat("a", 1<<16)})) {
		link.Check(all)
		for _, bad := range append(badItems(), nil, make([]api.Item, 1<<16), slices.Repeat(items(call("dup")), 1<<16)) {
			link.Ops(all, bad)
		}
		for _, op := range badOps() {
			link.Back(all, ops(op))
		}
		link.Back(all, long)
		link.Same(all, known())
		link.Same(known(), all)
		link.Same(all, all)
	}
}

// R5: nothing is kept from call to call.
func TestCallsAreApart(t *testing.T) {
	other := codes(code("foo", opPrim(1)), code("sq", opCall(0)))
	for range 3 {
		refusesOps(t, known(), items(call("foo")), api.ErrName)
		means(t, other, items(call("foo"), call("sq")), opCall(0), opCall(1))
		refusedEverywhere(t, codes(code("foo", opCall(1))))
		means(t, known(), items(call("quad"), call("sq")), opCall(0), opCall(1))
		links(t, squares(t), known()...)
		links(t, dictOf(t, "a", "a : sq ( n -- m ) 2 * ;"), code("sq", opPush(num(2)), opPrim(9)))
		if link.Same(known(), other) || !link.Same(known(), known()) || link.Check(known()) != api.OK {
			t.Errorf("Same or Check answers otherwise than before")
		}
	}
}
