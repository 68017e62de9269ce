package load_test

import (
	"fmt"
	"slices"
	"strings"
	"testing"

	"quire/api"
	"quire/dict"
	"quire/load"
	"quire/manifest"
	"quire/parse"
)

const example = "vocab a\nend\nvocab b\nuses a\n: sq ( x -- x ) dup * ;\nend\n"

func names(all ...string) []string                    { return all }
func manifests(all ...api.Manifest) []api.Manifest    { return all }
func call(name string) api.Item                       { return api.Call{Name: name} }
func push(v api.Value) api.Item                       { return api.Push{V: v} }
func vocab(name string, defs ...api.Def) api.Manifest { return api.Manifest{Name: name, Defs: defs} }

func using(name string, uses ...string) api.Manifest {
	return api.Manifest{Name: name, Uses: uses}
}

func def(name string, in, out int, body ...api.Item) api.Def {
	return api.Def{Name: name, Effect: api.Effect{In: in, Out: out}, Body: body}
}

// read answers the manifests of a text.
func read(t *testing.T, text string) []api.Manifest {
	t.Helper()
	list, at, e := manifest.Parse(text)
	if e != api.OK {
		t.Fatalf("Parse(%q): %d at %d", text, e, at)
	}
	return list
}

// lines answers the text of one manifest.
func lines(name string, all ...string) string {
	return "vocab " + name + "\n" + strings.Join(append(all, "end\n"), "\n")
}

// dictOf answers a dictionary that is told by a line for each vocabulary, as "b uses a", and one for each word, as "b : sq ( n -- m ) dup * ;".
func dictOf(t *testing.T, all ...string) (d api.Dict) {
	t.Helper()
	for _, line := range all {
		name, rest, _ := strings.Cut(line, " ")
		if strings.HasPrefix(rest, ":") {
			forms, _, e := parse.Parse(rest)
			if e != api.OK || len(forms) != 1 {
				t.Fatalf("%q is no definition", rest)
			}
			d.Words = append(d.Words, api.Word{Vocab: name, Def: forms[0].Def})
			continue
		}
		d.Vocabs = append(d.Vocabs, api.Vocab{Name: name, Uses: strings.Fields(strings.TrimPrefix(rest, "uses"))})
	}
	if e := dict.Check(d); e != api.OK {
		t.Fatalf("%q is no dictionary: %d", all, e)
	}
	return d
}

// short cuts a long text for a message.
func short(s string) string {
	if len(s) > 300 {
		return s[:300] + " .."
	}
	return s
}

// tell writes a dictionary down, so that two are told alike, if they are the same.
func tell(d api.Dict) string {
	var b strings.Builder
	for _, v := range d.Vocabs {
		fmt.Fprintf(&b, "%q uses %q\n", v.Name, v.Uses)
	}
	for _, w := range d.Words {
		text, e := parse.Text(w.Def.Body)
		fmt.Fprintf(&b, "%q %q %d %s %d\n", w.Vocab, w.Def.Name, w.Def.Effect, text, e)
	}
	return b.String()
}

// plans holds that Plan answers an order.
func plans(t *testing.T, d api.Dict, list []api.Manifest, want []string, order ...string) {
	t.Helper()
	if got, which, e := load.Plan(d, list, want); !slices.Equal(got, order) || which != "" || e != api.OK {
		t.Errorf("Plan for %q: %q, %q, %d, want %q", want, got, which, e, order)
	}
}

// loads holds that Load makes a dictionary of another, in an order, which Plan tells, too.
func loads(t *testing.T, d api.Dict, list []api.Manifest, want []string, made api.Dict, order ...string) {
	t.Helper()
	plans(t, d, list, want, order...)
	got, line, which, e := load.Load(d, list, want)
	if tell(got) != tell(made) || !slices.Equal(line, order) || which != "" || e != api.OK {
		t.Errorf("Load for %q: %s, %q, %q, %d, want %s, %q", want, short(tell(got)), line, which, e, short(tell(made)), order)
	}
	if e := dict.Check(got); e != api.OK {
		t.Errorf("Load for %q: %s is not sound", want, short(tell(got)))
	}
}

// refuses holds that both answer an error.
func refuses(t *testing.T, d api.Dict, list []api.Manifest, want []string, which string, e api.Errno) {
	t.Helper()
	if got, name, err := load.Plan(d, list, want); len(got) != 0 || name != which || err != e {
		t.Errorf("Plan for %q: %q, %q, %d, want %q, %d", want, got, name, err, which, e)
	}
	refusesLoad(t, d, list, want, which, e)
}

// refusesLoad holds that Load answers an error, and nothing else but the vocabulary.
func refusesLoad(t *testing.T, d api.Dict, list []api.Manifest, want []string, which string, e api.Errno) {
	t.Helper()
	got, order, name, err := load.Load(d, list, want)
	if got.Vocabs != nil || got.Words != nil || len(order) != 0 || name != which || err != e {
		t.Errorf("Load for %q: %s, %q, %q, %d, want %q, %d", want, short(tell(got)), order, name, err, which, e)
	}
}

// fails holds that all is well but what Load makes of one vocabulary.
func fails(t *testing.T, d api.Dict, list []api.Manifest, want []string, which string, e api.Errno) {
	t.Helper()
	if _, name, err := load.Plan(d, list, want); name != "" || err != api.OK {
		t.Errorf("Plan for %q: %q, %d", want, name, err)
	}
	refusesLoad(t, d, list, want, which, e)
}

func TestExamples(t *testing.T) {
	list := read(t, example)
	made := dictOf(t, "a", "b uses a", "b : sq ( x -- x ) dup * ;")
	loads(t, dict.New(), list, names("b"), made, "a", "b")
	loads(t, made, list, names("b"), made)
	fails(t, dict.New(), read(t, strings.Replace(example, "dup *", "foo", 1)), names("b"), "b", api.ErrName)
}

// P17.1: the order

// net answers manifests without definitions: a uses b and c, b uses c, z stands alone.
func net() []api.Manifest {
	return manifests(using("z"), using("a", "b", "c"), using("c"), using("b", "c"))
}

func TestOrders(t *testing.T) {
	all := dictOf(t, "a uses b c", "b uses c", "c", "z")
	loads(t, dict.New(), net(), names("a", "z"), all, "c", "b", "a", "z")
	loads(t, dict.New(), net(), names("z", "a", "b", "a", "z", "z"), all, "c", "b", "a", "z")
	loads(t, dict.New(), net(), names("z"), dictOf(t, "z"), "z")
	loads(t, dict.New(), net(), names("b"), dictOf(t, "b uses c", "c"), "c", "b")
	loads(t, dict.New(), net(), nil, dict.New())
	loads(t, dict.New(), nil, nil, dict.New())
	loads(t, dict.New(), nil, names(), dict.New())
	// Of those that may come, the least comes first.
	wide := manifests(using("d", "e"), using("c"), using("e", "z"), using("z"), using("B"), using("é"), using("a", "z"))
	loads(t, dict.New(), wide, names("é", "z", "d", "c", "B", "a"), dictOf(t, "B", "a uses z", "c", "d uses e", "e uses z", "z", "é"), "B", "c", "z", "a", "e", "d", "é")
}

// What is there already is left as it is, and what it uses is not asked for.
func TestWhatIsThere(t *testing.T) {
	there := dictOf(t, "c uses x", "x", "c : one ( -- n ) 1 ;")
	loads(t, there, net(), names("b"), dictOf(t, "b uses c", "c uses x", "x", "c : one ( -- n ) 1 ;"), "b")
	loads(t, there, net(), names("a", "c"), dictOf(t, "a uses b c", "b uses c", "c uses x", "x", "c : one ( -- n ) 1 ;"), "b", "a")
	loads(t, there, net(), names("c", "x"), there)
	loads(t, there, nil, names("x"), there)
	loads(t, there, net(), nil, there)
	// Its manifest may name what is missing or use others in a circle, and have what can't be defined.
	bad := manifests(using("c", "a", "none"), using("b", "c"), using("a", "b"), vocab("x", def("dup", 0, 0)))
	loads(t, there, bad, names("a", "c", "x"), dictOf(t, "a uses b", "b uses c", "c uses x", "x", "c : one ( -- n ) 1 ;"), "b", "a")
}

// What is not wanted may be as wrong as it likes.
func TestWhatIsNotWanted(t *testing.T) {
	list := append(net(), using("d", "none"), using("e", "e"), vocab("f", def("dup", 1, 2)), vocab("g", def("g", 0, 0, call("none"))))
	loads(t, dict.New(), list, names("b"), dictOf(t, "b uses c", "c"), "c", "b")
	refuses(t, dict.New(), list, names("d"), "none", api.ErrNone)
	refuses(t, dict.New(), list, names("e"), "e", api.ErrCycle)
	fails(t, dict.New(), list, names("f"), "f", api.ErrName)
	fails(t, dict.New(), list, names("g"), "g", api.ErrName)
}

func TestTwice(t *testing.T) {
	for _, want := range [][]string{nil, names("z"), names("a"), names("none")} {
		refuses(t, dict.New(), append(net(), using("z")), want, "z", api.ErrTwice)
		refuses(t, dict.New(), append(net(), using("z"), using("c", "none")), want, "c", api.ErrTwice)
		refuses(t, dict.New(), append(net(), using("q", "c", "b", "c")), want, "q", api.ErrTwice)
		refuses(t, dictOf(t, "a", "z"), append(net(), using("z")), want, "z", api.ErrTwice)
	}
}

func TestMissing(t *testing.T) {
	refuses(t, dict.New(), net(), names("q"), "q", api.ErrNone)
	refuses(t, dict.New(), net(), names("z", "q", "Q", "a"), "Q", api.ErrNone)
	refuses(t, dict.New(), nil, names("a"), "a", api.ErrNone)
	refuses(t, dict.New(), nil, names(""), "", api.ErrNone)
	refuses(t, dict.New(), net(), names("a", "1"), "1", api.ErrNone)
	refuses(t, dict.New(), net(), names("\xff"), "\xff", api.ErrNone)
	refuses(t, dictOf(t, "z"), net()[1:3], names("z", "a"), "b", api.ErrNone)
	// Words are no vocabularies.
	refuses(t, dictOf(t, "a", "a : q ( -- ) ;"), net(), names("q"), "q", api.ErrNone)
	// What is missing comes ahead of circles.
	refuses(t, dict.New(), manifests(using("a", "b"), using("b", "a", "y")), names("a"), "y", api.ErrNone)
}

func TestCircles(t *testing.T) {
	circle := append(net()[:2:2], using("c", "a"), using("b", "c"))
	for _, want := range [][]string{names("a"), names("b"), names("z", "c")} {
		refuses(t, dict.New(), circle, want, "a", api.ErrCycle)
	}
	refuses(t, dict.New(), manifests(using("y", "y")), names("y"), "y", api.ErrCycle)
	refuses(t, dictOf(t, "z"), manifests(using("a", "d"), using("d", "c"), using("c", "d")), names("a"), "c", api.ErrCycle)
	// Where one of a circle is there, it is none.
	loads(t, dictOf(t, "c"), circle, names("a"), dictOf(t, "a uses b c", "b uses c", "c"), "b", "a")
	refuses(t, dictOf(t, "b"), circle, names("a"), "a", api.ErrCycle)
}

// P17.2: what is loaded

func TestDefinitions(t *testing.T) {
	there := dictOf(t, "base", "top uses base", "top : four ( -- n ) two two * ;", "base : two ( -- n ) 2 ;")
	list := read(t, lines("b", "uses a base", ": area ( x x -- x ) * two / ;", ": sq ( n -- m ) dup times ;")+
		lines("a", ": ten ( -- n ) 10 ;", ": often ( n -- ) dup 0 < [ drop ] [ 1 - often ] if ;", ": all ( -- v v v ) \"a\\n\" { t { 1 } } [ [ ten ] ] ;"))
	fails(t, there, list, names("b"), "b", api.ErrEffect)
	list[0].Defs[1] = def("sq", 1, 1, call("dup"), call("area"), call("ten"), call("+"))
	loads(t, there, list, names("b"), dictOf(t, "a", "b uses a base", "base", "top uses base",
		"a : all ( -- v v v ) \"a\\n\" { t { 1 } } [ [ ten ] ] ;", "b : area ( x x -- x ) * two / ;", "top : four ( -- n ) two two * ;",
		"a : often ( n -- ) dup 0 < [ drop ] [ 1 - often ] if ;", "b : sq ( n -- m ) dup area ten + ;", "a : ten ( -- n ) 10 ;", "base : two ( -- n ) 2 ;"), "a", "b")
	loads(t, there, list, names("a"), dictOf(t, "a", "base", "top uses base",
		"a : all ( -- v v v ) \"a\\n\" { t { 1 } } [ [ ten ] ] ;", "top : four ( -- n ) two two * ;",
		"a : often ( n -- ) dup 0 < [ drop ] [ 1 - often ] if ;", "a : ten ( -- n ) 10 ;", "base : two ( -- n ) 2 ;"), "a")
}

// Definitions come one behind the other: each may call those ahead of it, none those behind it.
func TestDefinitionsInOrder(t *testing.T) {
	one, two := ": one ( -- n ) 1 ;", ": two ( -- n ) one one + ;"
	both := dictOf(t, "a", "a : one ( -- n ) 1 ;", "a : two ( -- n ) one one + ;")
	loads(t, dict.New(), read(t, lines("a", one, two)), names("a"), both, "a")
	fails(t, dict.New(), read(t, lines("a", two, one)), names("a"), "a", api.ErrName)
	// One may stand in the place of another, if what calls it still fits.
	loads(t, dict.New(), read(t, lines("a", ": one ( -- n ) 7 ;", two, one)), names("a"), both, "a")
	loads(t, dict.New(), read(t, lines("a", ": one ( -- ) ;", one, two)), names("a"), both, "a")
	fails(t, dict.New(), read(t, lines("a", one, two, ": one ( -- ) ;")), names("a"), "a", api.ErrEffect)
	fails(t, dict.New(), read(t, lines("a", one, two, ": one ( -- ) ;", one)), names("a"), "a", api.ErrEffect)
}

// Only what a vocabulary uses itself is seen.
func TestWhatIsSeen(t *testing.T) {
	base := lines("a", ": one ( -- n ) 1 ;")
	word := ": two ( -- n ) one one + ;"
	for _, quoted := range names(word, ": q ( -- q ) [ one ] ;", ": q ( -- v ) { [ [ one ] ] } ;") {
		fails(t, dict.New(), read(t, base+lines("b", quoted)), names("a", "b"), "b", api.ErrName)
		fails(t, dict.New(), read(t, base+lines("b", "uses a")+lines("c", "uses b", quoted)), names("c"), "c", api.ErrName)
		fails(t, dictOf(t, "a", "b uses a", "a : one ( -- n ) 1 ;"), read(t, lines("c", "uses b", quoted)), names("c"), "c", api.ErrName)
		fails(t, dict.New(), read(t, lines("a", quoted)+lines("b", ": one ( -- n ) 1 ;")), names("a", "b"), "a", api.ErrName)
	}
	loads(t, dict.New(), read(t, base+lines("b", "uses a")+lines("c", "uses b a", word)), names("c"), dictOf(t, "a", "b uses a", "c uses b a", "a : one ( -- n ) 1 ;", "c : two ( -- n ) one one + ;"), "a", "b", "c")
	loads(t, dictOf(t, "a", "a : one ( -- n ) 1 ;"), read(t, lines("c", "uses a", word)), names("c"), dictOf(t, "a", "c uses a", "a : one ( -- n ) 1 ;", "c : two ( -- n ) one one + ;"), "c")
}

func TestDefinitionsThatAreRefused(t *testing.T) {
	there := dictOf(t, "a", "a : old ( -- ) ;")
	for _, c := range []struct {
		line string
		want api.Errno
	}{
		{": dup ( x -- x x ) ;", api.ErrName},
		{": call ( -- ) none ;", api.ErrName},
		{": old ( -- ) ;", api.ErrTwice},
		{": old ( -- ) none ;", api.ErrTwice},
		{": x ( -- ) none ;", api.ErrName},
		{": x ( n -- ) none ;", api.ErrName},
		{": x ( -- ) old ;", api.ErrName},
		{": x ( n -- m ) ;", api.ErrEffect},
		{": x ( q -- ) call ;", api.ErrEffect},
		{": x ( -- ) " + strings.Repeat("1 ", api.MaxArgs+1) + ";", api.ErrLarge},
		{": x ( -- ) [ " + strings.Repeat("1 drop ", 250) + "] " + strings.Repeat("dup call ", 9) + "drop ;", api.ErrLarge},
	} {
		list := read(t, lines("b", c.line)+lines("c", "uses b")+lines("d", ": worse ( -- n ) ;"))
		fails(t, there, list, names("b"), "b", c.want)
		fails(t, there, list, names("d", "c"), "b", c.want)
		loads(t, there, list, names("a"), there)
	}
}

// The first error of all is told, in the order in which the vocabularies come.
func TestTheFirstError(t *testing.T) {
	name, effect, twice := ": x ( -- ) none ;", ": x ( -- n ) ;", ": x ( -- ) ;"
	list := read(t, lines("c", "uses b", name)+lines("b", effect, name)+lines("a", twice)+lines("d", twice)+lines("e"))
	fails(t, dict.New(), list, names("c"), "b", api.ErrEffect)
	fails(t, dict.New(), list, names("a", "d"), "d", api.ErrTwice)
	fails(t, dict.New(), list, names("d", "c", "e"), "b", api.ErrEffect)
	fails(t, dictOf(t, "b"), list, names("c", "e"), "c", api.ErrName)
	fails(t, dictOf(t, "b"), list, names("c", "e", "a"), "c", api.ErrTwice)
	list = read(t, lines("a", twice, name, effect)+lines("b", "uses a", effect))
	fails(t, dict.New(), list, names("b"), "a", api.ErrName)
}

// ErrForm

// bodies answers bodies that no definition of a manifest has.
func bodies() [][]api.Item {
	deep := api.Value(api.Quot{})
	for range api.MaxNest {
		deep = api.Quot{Items: []api.Item{push(deep)}}
	}
	return [][]api.Item{
		{nil}, {push(nil)}, {call("")}, {call("1")}, {call("t")}, {call("a b")}, {call("\xff")}, {&api.Call{Name: "dup"}}, {&api.Push{V: api.Int{}}},
		{push(&api.Int{})}, {push(api.Int{N: api.MaxInt + 1})}, {push(api.Str{S: "\xff"})}, {push(api.Box{N: 1})}, {push(api.List{Items: []api.Value{api.Box{}}})}, {push(api.Quot{Items: []api.Item{push(api.Box{N: 2})}})},
		{push(api.Str{S: strings.Repeat("a", api.MaxStr+1)})}, {push(deep)}, slices.Repeat([]api.Item{call("dup")}, api.MaxSize),
	}
}

func TestListsThatAreNotSound(t *testing.T) {
	bad := manifests(vocab(""), vocab("1"), vocab("a b"), vocab("\xff"), using("x", ""), using("x", "a", "1"), using("x", "\xff"),
		vocab("x", def("", 0, 0)), vocab("x", def("1", 0, 0)), vocab("x", def("t", 0, 0)), vocab("x", def("y", -1, 0)), vocab("x", def("y", 0, -1)), vocab("x", def("y", api.MaxArgs+1, 0)), vocab("x", def("y", 0, api.MaxArgs+1)))
	for _, body := range bodies() {
		bad = append(bad, vocab("x", def("y", 0, 0), def("z", 0, 1, body...)))
	}
	for _, m := range bad {
		for _, want := range [][]string{nil, names("z"), names("x"), names("none")} {
			refuses(t, dict.New(), manifests(m), want, "", api.ErrForm)
			refuses(t, dictOf(t, "x", "z"), append(net(), m, using("z")), want, "", api.ErrForm)
		}
	}
}

func TestDictionariesThatAreNotSound(t *testing.T) {
	word := func(vocab string, d api.Def) api.Dict {
		return api.Dict{Vocabs: []api.Vocab{{Name: "a"}, {Name: "z"}}, Words: []api.Word{{Vocab: vocab, Def: d}}}
	}
	bad := []api.Dict{
		{Vocabs: []api.Vocab{{}}}, {Vocabs: []api.Vocab{{Name: "1"}}}, {Vocabs: []api.Vocab{{Name: "b"}, {Name: "a"}}}, {Vocabs: []api.Vocab{{Name: "a"}, {Name: "a"}}},
		{Vocabs: []api.Vocab{{Name: "a", Uses: names("b")}}}, {Vocabs: []api.Vocab{{Name: "a", Uses: names("b")}, {Name: "b", Uses: names("a")}}}, {Vocabs: []api.Vocab{{Name: "a"}, {Name: "b", Uses: names("a", "a")}}},
		word("b", def("x", 0, 0)), word("a", def("dup", 1, 2)), word("a", def("x", 0, 1)), word("a", def("x", 0, 0, call("none"))), word("a", def("", 0, 0)),
	}
	for _, body := range bodies() {
		bad = append(bad, word("a", def("x", 0, 1, body...)))
	}
	for _, d := range bad {
		for _, want := range [][]string{nil, names("z"), names("a"), names("none")} {
			refuses(t, d, net(), want, "", api.ErrForm)
			refuses(t, d, nil, want, "", api.ErrForm)
			refuses(t, d, append(net(), using("z"), vocab("1")), want, "", api.ErrForm)
		}
	}
}
