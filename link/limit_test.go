package link_test

import (
	"fmt"
	"slices"
	"strings"
	"testing"

	"quire/api"
	"quire/link"
)

// fits holds that items may stand in a code, together.
func fits(t *testing.T, all []api.Item, want ...api.Op) {
	t.Helper()
	means(t, nil, all, want...)
	means(t, known(), all, want...)
	made := codes(code("a"), code("b", want...))
	if e := link.Check(made); e != api.OK || !link.Same(made, codes(code("a"), code("b", want...))) || link.Same(made, made[:1]) {
		t.Errorf("Check of %s: %d, or Same tells it otherwise", short(tellOps(want)), e)
	}
}

// fails holds that they may not.
func fails(t *testing.T, all []api.Item, same ...api.Op) {
	t.Helper()
	for _, known := range [][]api.Code{nil, known()} {
		refusesOps(t, known, all, api.ErrForm)
		refusesOps(t, known, append(items(call("foo")), all...), api.ErrForm)
		refusesBack(t, known, same)
	}
	refusedEverywhere(t, codes(code("a"), code("b", same...)))
}

// The quotation itself is one of MaxSize, so a code has at most one less.
func TestMaxSize(t *testing.T) {
	const most = api.MaxSize - 1
	for _, one := range []struct {
		item api.Item
		op   api.Op
	}{{call("dup"), opPrim(0)}, {call("."), opPrim(51)}, {push(num(1)), opPush(num(1))}, {push(list()), opPush(list())}, {push(quot()), opPush(quot())}} {
		fits(t, slices.Repeat(items(one.item), most), slices.Repeat(ops(one.op), most)...)
		fails(t, slices.Repeat(items(one.item), most+1), slices.Repeat(ops(one.op), most+1)...)
	}
	calls := slices.Repeat(ops(opCall(1)), most)
	means(t, known(), slices.Repeat(items(call("sq")), most), calls...)
	refusesOps(t, known(), slices.Repeat(items(call("sq")), most+1), api.ErrForm)
	refusesBack(t, known(), append(calls, opCall(1)))
	if e := link.Check(codes(code("a", calls...), code("b", calls...))); e != api.OK {
		t.Errorf("Check of two codes of that size: %d", e)
	}
	refusedEverywhere(t, codes(code("a", calls...), code("b", append(calls, opCall(1))...)))
	// Values count with all that is in them.
	v := quot(push(list(slices.Repeat([]api.Value{num(1)}, 600)...)), call("foo"))
	rest := most - 603
	fits(t, append(items(push(v)), slices.Repeat(items(call("drop")), rest)...), append(ops(opPush(v)), slices.Repeat(ops(opPrim(1)), rest)...)...)
	fails(t, append(items(push(v)), slices.Repeat(items(call("drop")), rest+1)...), append(ops(opPush(v)), slices.Repeat(ops(opPrim(1)), rest+1)...)...)
	fails(t, items(push(v), push(v)), opPush(v), opPush(v))
}

// The quotation itself is one of MaxNest, so a value that is pushed has at most one less.
func TestMaxNest(t *testing.T) {
	deep, deeper := num(1), num(1)
	for range api.MaxNest - 1 {
		deep = list(deep)
		deeper = quot(push(deeper))
	}
	fits(t, items(push(deep), push(deeper)), opPush(deep), opPush(deeper))
	for _, v := range []api.Value{list(deep), list(deeper), quot(push(deep)), quot(push(deeper))} {
		fails(t, items(push(v)), opPush(v))
		fails(t, items(push(num(1)), call("drop"), push(v)), opPush(num(1)), opPrim(1), opPush(v))
	}
}

func TestMaxStr(t *testing.T) {
	long := strings.Repeat("é", api.MaxStr/2)
	fits(t, items(push(str(long)), push(quot(push(str(long))))), opPush(str(long)), opPush(quot(push(str(long)))))
	fails(t, items(push(str(long+"a"))), opPush(str(long+"a")))
	fails(t, items(push(list(str(long+"a")))), opPush(list(str(long+"a"))))
}

func TestMaxName(t *testing.T) {
	long := strings.Repeat("é", api.MaxName)
	means(t, codes(code(long)), items(call(long)), opCall(0))
	fits(t, items(push(quot(call(long)))), opPush(quot(call(long))))
	refusedEverywhere(t, codes(code(long+"a")))
	refusesOps(t, codes(code(long)), items(call(long[:len(long)-2])), api.ErrName)
	refusesOps(t, codes(code(long)), items(call(long+"a")), api.ErrForm)
}

// No chapter names a limit of how many codes there are; a dictionary has at most MaxWords.
func TestManyCodes(t *testing.T) {
	d := api.Dict{Vocabs: []api.Vocab{{Name: "a"}}}
	var all []api.Code
	for i := range 3 * api.MaxWords {
		all = append(all, code(fmt.Sprintf("w%04d", i), opCall(3*api.MaxWords-1-i)))
	}
	last := len(all) - 1
	means(t, all, items(call(all[last].Name), call("w0000"), call(all[700].Name)), opCall(last), opCall(0), opCall(700))
	refusesBack(t, all, ops(opCall(last+1)))
	refusedEverywhere(t, append(all[:last:last], code("w", opCall(0))))
	var want []api.Code
	for i := range api.MaxWords {
		body := items(call(all[(i+1)%api.MaxWords].Name))
		d.Words = append(d.Words, api.Word{Vocab: "a", Def: api.Def{Name: all[i].Name, Body: body}})
		want = append(want, code(all[i].Name, opCall((i+1)%api.MaxWords)))
	}
	links(t, d, want...)
	d.Words = append(d.Words, api.Word{Vocab: "a", Def: api.Def{Name: "x"}})
	if got, e := link.Link(d); len(got) != 0 || e != api.ErrForm {
		t.Errorf("Link of too many words: %d codes, %d", len(got), e)
	}
}
