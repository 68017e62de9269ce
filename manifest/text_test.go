package manifest_test

import (
	"math"
	"slices"
	"strings"
	"testing"

	"quire/api"
	"quire/manifest"
)

// writes holds that manifests have a text, which is those manifests again.
func writes(t *testing.T, want string, list ...api.Manifest) {
	t.Helper()
	if s, e := manifest.Text(list); s != want || e != api.OK {
		t.Errorf("Text(%s): %q, %d, want %q", short(tell(list)), short(s), e, short(want))
	}
	reads(t, want, list...)
}

func refusesText(t *testing.T, want api.Errno, list ...api.Manifest) {
	t.Helper()
	if s, e := manifest.Text(list); s != "" || e != want {
		t.Errorf("Text of %d manifests: %q, %d, want the error %d alone", len(list), short(s), e, want)
	}
}

// unfit holds that a manifest is not sound, wherever it stands.
func unfit(t *testing.T, m api.Manifest) {
	t.Helper()
	refusesText(t, api.ErrForm, m)
	refusesText(t, api.ErrForm, vocab("a"), m)
	refusesText(t, api.ErrForm, m, vocab("a"))
	refusesText(t, api.ErrForm, m, m)
}

func unfitName(t *testing.T, name string) {
	t.Helper()
	unfit(t, vocab(name))
	unfit(t, using(name, names("b"), def("x", 0, 0)))
	unfit(t, using("a", names(name)))
	unfit(t, using("a", names("b", name)))
	unfit(t, using("a", names(name, "b"), def("x", 0, 0)))
}

func unfitDefinition(t *testing.T, d api.Def) {
	t.Helper()
	unfit(t, vocab("a", d))
	unfit(t, using("a", names("b"), def("x", 0, 0), d))
	unfit(t, vocab("a", d, def("x", 0, 0)))
}

// unfitItem holds that an item may stand in no definition, however deep.
func unfitItem(t *testing.T, item api.Item) {
	t.Helper()
	unfitDefinition(t, def("x", 0, 0, item))
	unfitDefinition(t, def("x", 0, 0, call("a"), item))
	unfitDefinition(t, def("x", 0, 0, push(quot(item)), call("a")))
	unfitDefinition(t, def("x", 0, 0, push(list(quot(call("a"), item)))))
}

// P16.2: the texts

func TestTexts(t *testing.T) {
	writes(t, "")
	writes(t, example, vocab("a"), using("b", names("a"), def("sq", 1, 1, call("dup"), call("*"))))
	writes(t, "vocab a\nend\n", vocab("a"))
	writes(t, "vocab b\nend\nvocab a\nend\nvocab b\nend\n", vocab("b"), vocab("a"), vocab("b"))
	writes(t, "vocab a\nuses c b c a\nend\n", using("a", names("c", "b", "c", "a")))
	writes(t, "vocab a\n: y ( x x -- ) ;\n: x ( -- x ) ;\n: y ( -- ) ;\nend\n", vocab("a", def("y", 2, 0), def("x", 0, 1), def("y", 0, 0)))
	writes(t, "vocab a\nuses b c\n: x ( x -- x x ) -1 \"a\\n\\\"\\\\\" t [ x [ ] ] { f { } [ a ] } x ;\nend\nvocab d\nuses e\nend\n",
		using("a", names("b", "c"), def("x", 1, 2, push(api.Int{N: -1}), push(api.Str{S: "a\n\"\\"}), push(api.Bool{B: true}), push(quot(call("x"), push(quot()))), push(list(api.Bool{}, list(), quot(call("a")))), call("x"))),
		using("d", names("e")))
}

// Empty lists are written as no list is.
func TestTextsOfNothing(t *testing.T) {
	writes(t, "", manifests()...)
	writes(t, "vocab a\n: x ( -- ) ;\nend\n", using("a", names(), def("x", 0, 0, []api.Item{}...)))
	writes(t, "vocab a\nuses b\nend\n", using("a", names("b"), defs()...))
}

// However a text was written, the text of what is read is one.
func TestTextsAreOne(t *testing.T) {
	l, _, _ := manifest.Parse("\nvocab b\n\nuses a\n\n\t: sq ( n\u3000-- m )  ٢ \"a\"\"\" dup * ; ! the square\n\nend\n\n")
	writes(t, "vocab b\nuses a\n: sq ( x -- x ) 2 \"a\" \"\" dup * ;\nend\n", l...)
}

// P16.2: what is not sound

func TestNamesOfManifests(t *testing.T) {
	for _, name := range names("a", "end", "uses", "vocab", ":", ";", "t", "!a", `a"`, "語", "\u0085", "1٣", strings.Repeat("𝛼", api.MaxName)) {
		writes(t, "vocab "+name+"\nend\n", vocab(name))
		writes(t, "vocab a\nuses "+name+" "+name+"\nend\n", using("a", names(name, name)))
	}
	for _, name := range names("", "1", "-1", "٣", "!", `"`, `"a"`, " ", "a ", " a", "a b", "a\nend", "\n", "a\t", "a\u00a0", "\x00", "a\ufffd", "\xff", "a\xe8\xaa", strings.Repeat("n", api.MaxName+1), strings.Repeat("n", api.MaxText+1)) {
		unfitName(t, name)
	}
}

func TestDefinitionsOfManifests(t *testing.T) {
	most := strings.Repeat("x ", api.MaxArgs)
	writes(t, "vocab a\n: y ( "+most+"-- "+most+") ;\nend\n", vocab("a", def("y", api.MaxArgs, api.MaxArgs)))
	for _, n := range []int{-1, api.MaxArgs + 1, math.MinInt, math.MaxInt} {
		unfitDefinition(t, def("x", n, 0))
		unfitDefinition(t, def("x", 0, n))
	}
	for _, name := range names("", "1", ":", ";", "(", ")", "--", "[", "]", "{", "}", "t", "f", "!", `"a"`, "a b", "a\n", "\xff", "\ufffd", strings.Repeat("n", api.MaxName+1)) {
		unfitDefinition(t, def(name, 0, 0))
		unfitItem(t, call(name))
	}
}

func TestItemsOfManifests(t *testing.T) {
	for _, item := range []api.Item{nil, &api.Push{V: api.Int{}}, &api.Call{Name: "a"}, (*api.Push)(nil), (*api.Call)(nil), push(nil), api.Push{}, api.Call{}} {
		unfitItem(t, item)
	}
	for _, v := range []api.Value{api.Int{N: api.MaxInt + 1}, api.Int{N: api.MinInt - 1}, api.Str{S: "\xff"}, api.Str{S: strings.Repeat("a", api.MaxStr+1)}, api.Box{}, api.Box{N: 1}, api.Box{N: -1}, &api.Int{}, &api.Bool{}, (*api.List)(nil), &api.Quot{}} {
		unfitItem(t, push(v))
		unfitItem(t, push(list(v)))
		unfitItem(t, push(list(api.Int{}, list(v))))
	}
}

// Lists that hold themselves come to an end.
func TestListsThatHoldThemselves(t *testing.T) {
	values := make([]api.Value, 2)
	values[0], values[1] = api.List{Items: values}, api.List{Items: values}
	unfitItem(t, push(api.List{Items: values}))
	body := make([]api.Item, 2)
	body[0], body[1] = push(api.Quot{Items: body}), push(api.Quot{Items: body})
	unfitDefinition(t, def("x", 0, 0, body...))
}

func calls(n int) []api.Item {
	return slices.Repeat([]api.Item{call("y")}, n)
}

// nested answers a quotation of so many within one another, itself among them.
func nested(n int) api.Item {
	q := quot()
	for range n - 1 {
		q = quot(push(q))
	}
	return push(q)
}

// A definition that no source can have has no line.
func TestBodiesAtTheEnds(t *testing.T) {
	writes(t, "vocab a\n: x ( -- ) "+strings.Repeat("y ", api.MaxSize-1)+";\nend\n", vocab("a", def("x", 0, 0, calls(api.MaxSize-1)...)))
	writes(t, "vocab a\n: x ( -- ) [ "+strings.Repeat("y ", api.MaxSize-2)+"] ;\nend\n", vocab("a", def("x", 0, 0, push(quot(calls(api.MaxSize-2)...)))))
	deep := api.MaxNest - 1
	writes(t, "vocab a\n: x ( -- ) "+strings.Repeat("[ ", deep)+strings.Repeat("] ", deep)+";\nend\n", vocab("a", def("x", 0, 0, nested(deep))))
	unfitDefinition(t, def("x", 0, 0, calls(api.MaxSize)...))
	unfitDefinition(t, def("x", 0, 0, push(quot(calls(api.MaxSize-1)...))))
	unfitDefinition(t, def("x", 0, 0, push(quot(calls(api.MaxSize)...))))
	unfitDefinition(t, def("x", 0, 0, calls(1<<20)...))
	unfitDefinition(t, def("x", 0, 0, nested(deep+1)))
	unfitDefinition(t, def("x", 0, 0, nested(deep+2)))
	unfitDefinition(t, def("x", 0, 0, call("y"), push(quot(nested(deep)))))
}

// filled answers the items of a body whose text has so many bytes, with the blanks between.
func filled(bytes int) []api.Item {
	var body []api.Item
	for bytes > api.MaxStr {
		body = append(body, push(api.Str{S: strings.Repeat("s", api.MaxStr-3)}))
		bytes -= api.MaxStr
	}
	return append(body, push(api.Str{S: strings.Repeat("s", bytes-2)}))
}

// A definition is one that Source writes, if it writes it alone.
func TestDefinitionsThatAreNotWritten(t *testing.T) {
	const around = len(": x ( -- )  ;\n")
	refusesText(t, api.ErrLarge, vocab("a", def("x", 0, 0, filled(api.MaxText-around)...)))
	unfitDefinition(t, def("x", 0, 0, filled(api.MaxText-around+1)...))
	unfitDefinition(t, def("x", 0, 0, filled(3*api.MaxText)...))
}

// P16.2: ErrLarge

func TestLargeText(t *testing.T) {
	const around = len("vocab a\n: x ( -- )  ;\nend\n")
	full := vocab("a", def("x", 0, 0, filled(api.MaxText-around)...))
	if s, e := manifest.Text(manifests(full)); len(s) != api.MaxText || e != api.OK {
		t.Errorf("Text of MaxText bytes: %d bytes, %d", len(s), e)
	} else {
		reads(t, s, full)
	}
	refusesText(t, api.ErrLarge, vocab("a", def("x", 0, 0, filled(api.MaxText-around+1)...)))
	refusesText(t, api.ErrLarge, vocab("ab", full.Defs...))
	refusesText(t, api.ErrLarge, using("a", names("a"), full.Defs...))
	refusesText(t, api.ErrLarge, full, vocab("a"))
	refusesText(t, api.ErrLarge, vocab("a"), full)
	refusesText(t, api.ErrLarge, vocab("a", slices.Concat(full.Defs, full.Defs)...))
}

func TestLargeTextsOfShortLines(t *testing.T) {
	many := slices.Repeat(manifests(vocab("a")), api.MaxText/12)
	four := vocab("abcde")
	writes(t, strings.Repeat("vocab a\nend\n", api.MaxText/12-1)+"vocab abcde\nend\n", append(slices.Clone(many[1:]), four)...)
	refusesText(t, api.ErrLarge, append(slices.Clone(many[1:]), vocab("abcdef"))...)
	refusesText(t, api.ErrLarge, append(slices.Clone(many), vocab("a"))...)
	refusesText(t, api.ErrLarge, slices.Repeat(many, 100)...)
	// a line uses of uses and a blank and 2 bytes a name
	all := slices.Repeat(names("b"), (api.MaxText-len("vocab a\nuses\nend\n"))/2)
	writes(t, "vocab a\nuses"+strings.Repeat(" b", len(all)-1)+" bb\nend\n", using("a", append(slices.Clone(all[1:]), "bb")))
	refusesText(t, api.ErrLarge, using("a", append(slices.Clone(all), "b")))
	refusesText(t, api.ErrLarge, using("a", slices.Repeat(all, 100)))
}

// ErrForm stands ahead of ErrLarge, wherever what is not sound stands.
func TestWhichError(t *testing.T) {
	large := slices.Repeat(manifests(vocab("a")), api.MaxText)
	for _, m := range manifests(vocab("1"), using("a", names("")), vocab("a", def("t", 0, 0)), vocab("a", def("x", 0, 0, push(api.Box{N: 1}))), using("a", append(slices.Repeat(names("b"), api.MaxText), "2"))) {
		refusesText(t, api.ErrLarge, large...)
		refusesText(t, api.ErrForm, append(slices.Clone(large), m)...)
		refusesText(t, api.ErrForm, append(manifests(m), large...)...)
		refusesText(t, api.ErrForm, slices.Insert(slices.Clone(large), 6000, m)...)
	}
}

// P16.2: the vocabularies

func vocabsAre(t *testing.T, list []api.Manifest, want ...api.Vocab) {
	t.Helper()
	got := manifest.Vocabs(list)
	same := func(a, b api.Vocab) bool { return a.Name == b.Name && slices.Equal(a.Uses, b.Uses) }
	if !slices.EqualFunc(got, want, same) {
		t.Errorf("Vocabs(%s): %q, want %q", tell(list), got, want)
	}
}

func TestVocabs(t *testing.T) {
	vocabsAre(t, nil)
	vocabsAre(t, manifests())
	vocabsAre(t, manifests(vocab("a")), api.Vocab{Name: "a"})
	l, _, _ := manifest.Parse(example)
	vocabsAre(t, l, api.Vocab{Name: "a"}, api.Vocab{Name: "b", Uses: names("a")})
	vocabsAre(t, manifests(using("c", names("b", "a", "b"), def("x", 0, 0)), vocab("a", def("c", 0, 0)), using("c", names("c"))), api.Vocab{Name: "c", Uses: names("b", "a", "b")}, api.Vocab{Name: "a"}, api.Vocab{Name: "c", Uses: names("c")})
	// What is not sound has names, too.
	vocabsAre(t, manifests(using("", names("1", "\xff", ""), def("t", -1, 99, nil, push(nil))), vocab("1")), api.Vocab{Uses: names("1", "\xff", "")}, api.Vocab{Name: "1"})
	vocabsAre(t, slices.Repeat(manifests(vocab("a")), 100000), slices.Repeat([]api.Vocab{{Name: "a"}}, 100000)...)
}
