package link_test

import (
	"fmt"
	"slices"
	"strings"
	"testing"

	"quire/api"
	"quire/dict"
	"quire/link"
	"quire/parse"
	"quire/prim"
)

func call(name string) api.Item              { return api.Call{Name: name} }
func push(v api.Value) api.Item              { return api.Push{V: v} }
func num(n int64) api.Value                  { return api.Int{N: n} }
func str(s string) api.Value                 { return api.Str{S: s} }
func box(n int) api.Value                    { return api.Box{N: n} }
func list(parts ...api.Value) api.Value      { return api.List{Items: parts} }
func quot(parts ...api.Item) api.Value       { return api.Quot{Items: parts} }
func items(all ...api.Item) []api.Item       { return all }
func ops(all ...api.Op) []api.Op             { return all }
func codes(all ...api.Code) []api.Code       { return all }
func opPush(v api.Value) api.Op              { return api.Op{Kind: api.OPush, V: v} }
func opPrim(n int) api.Op                    { return api.Op{Kind: api.OPrim, N: n} }
func opCall(n int) api.Op                    { return api.Op{Kind: api.OCall, N: n} }
func code(name string, l ...api.Op) api.Code { return api.Code{Name: name, Ops: l} }

// source answers the items of a source.
func source(t *testing.T, text string) []api.Item {
	t.Helper()
	all, at, e := parse.Items(text)
	if e != api.OK {
		t.Fatalf("%q: %d at %d", text, e, at)
	}
	return all
}

// dictOf answers a dictionary that is told by a line for each vocabulary, as "b uses a", and one for each word, as "b : sq ( n -- m ) dup * ;".
func dictOf(t *testing.T, lines ...string) (d api.Dict) {
	t.Helper()
	for _, line := range lines {
		name, rest, _ := strings.Cut(line, " ")
		if strings.HasPrefix(rest, ":") {
			forms, _, e := parse.Parse(rest)
			if e != api.OK || len(forms) != 1 {
				t.Fatalf("%q is no definition", rest)
			}
			d.Words = append(d.Words, api.Word{Vocab: name, Def: forms[0].Def})
			continue
		}
		d.Vocabs = append(d.Vocabs, api.Vocab{Name: name, Uses: strings.Fields(strings.TrimPrefix(rest, "uses"))})
	}
	if e := dict.Check(d); e != api.OK {
		t.Fatalf("%q is no dictionary: %d", lines, e)
	}
	return d
}

// tell writes down all that a value holds. Lists without anything in them are told as one, be they nil or not.
func tell(v api.Value) string {
	switch x := v.(type) {
	case api.List:
		var parts []string
		for _, v := range x.Items {
			parts = append(parts, tell(v))
		}
		return "List(" + strings.Join(parts, " ") + ")"
	case api.Quot:
		return "Quot(" + tellItems(x.Items) + ")"
	}
	return fmt.Sprintf("%#v", v)
}

func tellItems(all []api.Item) string {
	var parts []string
	for _, item := range all {
		if p, ok := item.(api.Push); ok {
			parts = append(parts, tell(p.V))
			continue
		}
		parts = append(parts, fmt.Sprintf("%#v", item))
	}
	return strings.Join(parts, " ")
}

func tellOps(all []api.Op) string {
	var parts []string
	for _, op := range all {
		parts = append(parts, fmt.Sprint(op.Kind, " ", op.N, " ", tell(op.V)))
	}
	return strings.Join(parts, "; ")
}

func tellCodes(all []api.Code) string {
	told := fmt.Sprint(len(all))
	for _, c := range all {
		told += fmt.Sprintf("\n%q: %d: %s", c.Name, len(c.Ops), tellOps(c.Ops))
	}
	return told
}

// short cuts a long text for a message.
func short(s string) string {
	if len(s) > 400 {
		return s[:400] + " .."
	}
	return s
}

// links holds that Link answers codes, which are sound.
func links(t *testing.T, d api.Dict, want ...api.Code) {
	t.Helper()
	got, e := link.Link(d)
	if tellCodes(got) != tellCodes(want) || e != api.OK {
		t.Errorf("Link: %s, %d, want %s", short(tellCodes(got)), e, short(tellCodes(want)))
	}
	if e := link.Check(got); e != api.OK || !link.Same(got, want) || !link.Same(want, got) {
		t.Errorf("Link: %s: Check answers %d, or they are not the same as they are", short(tellCodes(got)), e)
	}
}

// means holds that items have a code, and that they are what comes back of it.
func means(t *testing.T, known []api.Code, all []api.Item, want ...api.Op) {
	t.Helper()
	got, e := link.Ops(known, all)
	if tellOps(got) != tellOps(want) || len(got) != len(want) || e != api.OK {
		t.Errorf("Ops of %s: %s, %d, want %s", short(tellItems(all)), short(tellOps(got)), e, short(tellOps(want)))
	}
	back, e := link.Back(known, want)
	if tellItems(back) != tellItems(all) || len(back) != len(all) || e != api.OK {
		t.Errorf("Back of %s: %s, %d, want %s", short(tellOps(want)), short(tellItems(back)), e, short(tellItems(all)))
	}
}

// refusesOps holds that Ops answers an error, and nothing else.
func refusesOps(t *testing.T, known []api.Code, all []api.Item, want api.Errno) {
	t.Helper()
	if got, e := link.Ops(known, all); len(got) != 0 || e != want {
		t.Errorf("Ops: %s, %d, want %d", short(tellOps(got)), e, want)
	}
}

// refusesBack holds that Back answers ErrForm, and nothing else.
func refusesBack(t *testing.T, known []api.Code, all []api.Op) {
	t.Helper()
	if got, e := link.Back(known, all); len(got) != 0 || e != api.ErrForm {
		t.Errorf("Back of %s: %s, %d", short(tellOps(all)), short(tellItems(got)), e)
	}
}

func squares(t *testing.T) api.Dict {
	t.Helper()
	return dictOf(t, "a", "a : quad ( n -- m ) sq sq ;", "a : sq ( n -- m ) dup * ;")
}

// known answers the codes of squares.
func known() []api.Code {
	return codes(code("quad", opCall(1), opCall(1)), code("sq", opPrim(0), opPrim(9)))
}

func TestExample(t *testing.T) {
	links(t, squares(t), known()...)
	refusesOps(t, known(), items(call("foo")), api.ErrName)
}

// P18.1: Link

func TestLinkOfNoWords(t *testing.T) {
	links(t, dict.New())
	links(t, dictOf(t, "a", "b uses a"))
}

func TestLink(t *testing.T) {
	links(t, dictOf(t, "a : none ( -- ) ;", "a"), code("none"))
	// Names rise by bytes, whichever vocabularies they are of, and whichever words call others.
	d := dictOf(t, "a", "b uses a", "c",
		"b : B ( n -- m ) é z ;",
		"c : a ( -- ) ;",
		"b : loops ( n -- ) dup 0 > [ 1 - loops ] [ drop ] if ;",
		"a : z ( n -- m ) 2 drop é ;",
		"a : é ( n -- m ) 1 + ;")
	links(t, d,
		code("B", opCall(4), opCall(3)),
		code("a"),
		code("loops", opPrim(0), opPush(num(0)), opPrim(17), opPush(quot(push(num(1)), call("-"), call("loops"))), opPush(quot(call("drop"))), opPrim(43)),
		code("z", opPush(num(2)), opPrim(1), opCall(4)),
		code("é", opPush(num(1)), opPrim(7)))
}

// What a word calls may be itself, and words may call one another in a circle.
func TestLinkOfCircles(t *testing.T) {
	links(t, dictOf(t, "a", "a : g ( n -- m ) h ;", "a : h ( n -- m ) k ;", "a : k ( n -- m ) g 1 + ;"),
		code("g", opCall(1)), code("h", opCall(2)), code("k", opCall(0), opPush(num(1)), opPrim(7)))
	links(t, dictOf(t, "a", "a : self ( n -- m ) self self ;"), code("self", opCall(0), opCall(0)))
}

// A code is known by its place, which is another when words come and go.
func TestLinkFollowsEdits(t *testing.T) {
	d := squares(t)
	forms, _, _ := parse.Parse(": a ( n -- m ) quad sq ; : sq ( n -- m ) a drop 1 ; : sq ( n -- m ) 7 * ;")
	var e api.Errno
	for i, want := range [][]api.Code{
		codes(code("a", opCall(1), opCall(2)), code("quad", opCall(2), opCall(2)), code("sq", opPrim(0), opPrim(9))),
		codes(code("a", opCall(1), opCall(2)), code("quad", opCall(2), opCall(2)), code("sq", opCall(0), opPrim(1), opPush(num(1)))),
		codes(code("a", opCall(1), opCall(2)), code("quad", opCall(2), opCall(2)), code("sq", opPush(num(7)), opPrim(9))),
	} {
		if d, e = dict.Define(d, "a", forms[i].Def); e != api.OK {
			t.Fatalf("Define: %d", e)
		}
		links(t, d, want...)
	}
	if d, e = dict.Forget(d, "a"); e != api.OK {
		t.Fatalf("Forget: %d", e)
	}
	links(t, d, code("quad", opCall(1), opCall(1)), code("sq", opPush(num(7)), opPrim(9)))
}

func TestLinkOfWhatIsNotSound(t *testing.T) {
	changes := []func(*api.Dict){
		func(d *api.Dict) { d.Vocabs = nil },
		func(d *api.Dict) { d.Words = d.Words[:1] },
		func(d *api.Dict) { slices.Reverse(d.Words) },
		func(d *api.Dict) { d.Words[0].Def.Effect.Out = 2 },
		func(d *api.Dict) { d.Words[1].Def.Body[0] = nil },
		func(d *api.Dict) { d.Words[1].Def.Body[0] = push(box(1)) },
		func(d *api.Dict) { d.Words[1].Def.Name = "swap" },
		func(d *api.Dict) { d.Vocabs[0].Uses = []string{"a"} },
	}
	for i, change := range changes {
		d := squares(t)
		change(&d)
		if got, e := link.Link(d); len(got) != 0 || e != api.ErrForm {
			t.Errorf("Link, change %d: %s, %d", i, tellCodes(got), e)
		}
	}
	for _, d := range []api.Dict{{Words: make([]api.Word, 2)}, {Vocabs: make([]api.Vocab, 1)}, {Words: make([]api.Word, 1<<16)}} {
		if got, e := link.Link(d); len(got) != 0 || e != api.ErrForm {
			t.Errorf("Link: %s, %d", short(tellCodes(got)), e)
		}
	}
}

// P18.2: Ops and Back

// The primitives by number, written out, as both sides of the program ask one list.
const primitives = "dup drop swap over rot nip tuck + - * / mod neg abs min max < > = and or not int? str? bool? list? quot? box? length append " +
	"nth slice wrap pair unpair reverse curry compose >str >int call dip keep if when times each loop box get put ."

func TestPrimitives(t *testing.T) {
	all := strings.Fields(primitives)
	if len(all) != 52 || !slices.Equal(all, prim.Names()) {
		t.Fatalf("the primitives are %q", prim.Names())
	}
	for i, name := range all {
		for _, known := range [][]api.Code{nil, codes(code("a"), code("z")), known()} {
			means(t, known, items(call(name)), opPrim(i))
			means(t, known, items(call("dup"), call(name), call(".")), opPrim(0), opPrim(i), opPrim(51))
		}
	}
}

func TestWords(t *testing.T) {
	some := codes(code("B"), code("a"), code("ab"), code("b"), code("duq"), code("é"))
	for i, c := range some {
		means(t, some, items(call(c.Name)), opCall(i))
	}
	means(t, some, items(call("b"), call("B"), call("b"), call("dup")), opCall(3), opCall(0), opCall(3), opPrim(0))
	for _, name := range []string{"A", "aB", "abc", "c", "du", "dups", "foo", "e", "vocab", "éé"} {
		refusesOps(t, some, items(call(name)), api.ErrName)
		refusesOps(t, some, items(push(num(1)), call("a"), call(name), call("b")), api.ErrName)
		refusesOps(t, nil, items(call(name)), api.ErrName)
	}
}

func TestPushes(t *testing.T) {
	for _, v := range []api.Value{
		num(0), num(-1), num(api.MaxInt), num(api.MinInt), str(""), str("a\nb \"é\""), str("\x00"), api.Bool{}, api.Bool{B: true},
		list(), list(num(1), list(str("x"), quot(call("foo")))), quot(), quot(call("dup"), push(list(quot())), call("sq")),
	} {
		means(t, known(), items(push(v)), opPush(v))
		means(t, nil, items(push(v), push(v), call("drop")), opPush(v), opPush(v), opPrim(1))
	}
	means(t, known(), nil)
	means(t, nil, items())
	means(t, known(), source(t, `3 quad [ foo ]`), opPush(num(3)), opCall(0), opPush(quot(call("foo"))))
}

// What stands in a quotation that is pushed stays as it is, be its names known or not.
func TestQuotationsKeepNames(t *testing.T) {
	all := source(t, "[ sq quad dup foo ] { [ foo [ sq ] ] } call sq")
	inner := quot(call("sq"), call("quad"), call("dup"), call("foo"))
	means(t, known(), all, opPush(inner), opPush(list(quot(call("foo"), push(quot(call("sq")))))), opPrim(40), opCall(1))
	refusesOps(t, nil, all, api.ErrName)
	refusesOps(t, known(), append(all, call("foo")), api.ErrName)
}

// badItems answers items that are no sound quotation, or one in which a box stands.
func badItems() [][]api.Item {
	own := api.List{Items: make([]api.Value, 1)}
	own.Items[0] = own
	within := api.Quot{Items: make([]api.Item, 2)}
	within.Items[0], within.Items[1] = push(within), push(within)
	var all [][]api.Item
	for _, v := range append(badValues(), own, within) {
		all = append(all, items(push(v)))
	}
	for _, item := range []api.Item{nil, api.Call{}, &api.Call{Name: "dup"}, &api.Push{V: num(1)}, (*api.Call)(nil), (*api.Push)(nil)} {
		all = append(all, items(item))
	}
	for _, name := range badNames() {
		all = append(all, items(call(name)), items(push(quot(call(name)))))
	}
	return all
}

// badNames answers names that may not be called.
func badNames() []string {
	return []string{"", "1", "-7", "٣", ":", ";", "(", ")", "--", "[", "]", "{", "}", "t", "f", "a b", "a\n", " ", "!", "\"", "\"a", "\xff", "a\x7f", "�", strings.Repeat("n", api.MaxName+1)}
}

// badValues answers values that are not sound, or in which a box stands.
func badValues() []api.Value {
	return []api.Value{
		nil, &api.Int{}, (*api.Int)(nil), &api.List{}, &api.Quot{}, &api.Box{N: 1}, (*api.Str)(nil),
		num(api.MaxInt + 1), num(api.MinInt - 1), str("\xff"), str("a\xc3"), str(strings.Repeat("a", api.MaxStr+1)),
		box(1), box(api.MaxBoxes), box(0), box(-1), list(box(1)), quot(push(box(3))), list(quot(push(list(num(1), box(2))))),
		list(nil), list(num(1), nil), quot(nil), quot(push(nil)), quot(call("")), quot(&api.Call{Name: "dup"}), list(&api.Int{}),
	}
}

func TestItemsThatAreRefused(t *testing.T) {
	for _, bad := range badItems() {
		for _, known := range [][]api.Code{nil, known()} {
			refusesOps(t, known, bad, api.ErrForm)
			// ErrForm comes ahead of ErrName, wherever they stand.
			refusesOps(t, known, append(items(call("foo"), push(num(1))), bad...), api.ErrForm)
			refusesOps(t, known, append(bad[:len(bad):len(bad)], call("foo")), api.ErrForm)
		}
	}
}

// badOps answers operations that are none, where there are two codes.
func badOps() []api.Op {
	all := []api.Op{
		{}, {N: 1}, {V: num(1)}, {Kind: 4}, {Kind: 4, V: num(1)}, {Kind: -1}, {Kind: -1 << 63}, {Kind: 1<<63 - 1},
		{Kind: api.OPush}, {Kind: api.OPush, N: 1, V: num(1)}, {Kind: api.OPush, N: -1, V: num(1)},
		{Kind: api.OPrim, V: num(0)}, {Kind: api.OPrim, V: (*api.Int)(nil)}, {Kind: api.OPrim, V: list()},
		{Kind: api.OCall, V: num(0)}, {Kind: api.OCall, V: (*api.Quot)(nil)}, {Kind: api.OCall, V: quot()},
		opPrim(-1), opPrim(52), opPrim(1 << 32), opPrim(1<<63 - 1), opPrim(-1 << 63),
		opCall(-1), opCall(2), opCall(1 << 32), opCall(1<<63 - 1), opCall(-1 << 63),
	}
	for _, v := range badValues() {
		all = append(all, opPush(v))
	}
	return all
}

func TestOperationsThatAreRefused(t *testing.T) {
	for _, bad := range badOps() {
		refusesBack(t, known(), ops(bad))
		refusesBack(t, known(), ops(opPush(num(1)), opCall(1), bad))
		refusesBack(t, known(), ops(bad, opPrim(1)))
	}
	// How many codes there are counts.
	refusesBack(t, nil, ops(opCall(0)))
	refusesBack(t, codes(code("a")), ops(opCall(1)))
	means(t, codes(code("a")), items(call("a")), opCall(0))
}

// There and back

func TestBackOfLink(t *testing.T) {
	d := dictOf(t, "a", "a : all ( -- v v v v ) 1 \"x\" { t { f } } [ [ all ] dip ] ;", "a : quad ( n -- m ) sq sq ;", "a : sq ( n -- m ) dup * ;")
	made, e := link.Link(d)
	if e != api.OK || len(made) != len(d.Words) {
		t.Fatalf("Link: %s, %d", tellCodes(made), e)
	}
	for i, w := range d.Words {
		means(t, made, w.Def.Body, made[i].Ops...)
	}
}
