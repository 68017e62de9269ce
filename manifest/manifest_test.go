package manifest_test

import (
	"fmt"
	"strings"
	"testing"

	"quire/api"
	"quire/manifest"
	"quire/parse"
)

const example = "vocab a\nend\nvocab b\nuses a\n: sq ( x -- x ) dup * ;\nend\n"

func names(all ...string) []string                    { return all }
func defs(all ...api.Def) []api.Def                   { return all }
func manifests(all ...api.Manifest) []api.Manifest    { return all }
func call(name string) api.Item                       { return api.Call{Name: name} }
func push(v api.Value) api.Item                       { return api.Push{V: v} }
func list(values ...api.Value) api.Value              { return api.List{Items: values} }
func quot(items ...api.Item) api.Value                { return api.Quot{Items: items} }
func vocab(name string, defs ...api.Def) api.Manifest { return api.Manifest{Name: name, Defs: defs} }

func using(name string, uses []string, defs ...api.Def) api.Manifest {
	return api.Manifest{Name: name, Uses: uses, Defs: defs}
}

func def(name string, in, out int, body ...api.Item) api.Def {
	return api.Def{Name: name, Effect: api.Effect{In: in, Out: out}, Body: body}
}

// short cuts a long text for a message.
func short(s string) string {
	if len(s) > 200 {
		return s[:200] + " .."
	}
	return s
}

// tell writes manifests down, so that two are told alike, if they are the same.
func tell(list []api.Manifest) string {
	var b strings.Builder
	for _, m := range list {
		fmt.Fprintf(&b, "%q uses %q\n", m.Name, m.Uses)
		for _, d := range m.Defs {
			text, e := parse.Text(d.Body)
			fmt.Fprintf(&b, "%q %d %s %d\n", d.Name, d.Effect, text, e)
		}
	}
	return b.String()
}

// reads holds that a text is manifests.
func reads(t *testing.T, s string, want ...api.Manifest) {
	t.Helper()
	if got, at, e := manifest.Parse(s); tell(got) != tell(want) || at != 0 || e != api.OK {
		t.Errorf("Parse(%q): %s, %d, %d, want %s", short(s), short(tell(got)), at, e, short(tell(want)))
	}
}

// faulty holds that a line of a text can't stand there.
func faulty(t *testing.T, s string, at int) {
	t.Helper()
	refuses(t, s, at, api.ErrText)
}

func refuses(t *testing.T, s string, at int, want api.Errno) {
	t.Helper()
	if got, place, e := manifest.Parse(s); len(got) != 0 || place != at || e != want {
		t.Errorf("Parse(%q): %s, %d, %d, want the error %d at %d alone", short(s), short(tell(got)), place, e, want, at)
	}
}

// alone answers a text whose only manifest has lines, of which the first is line 3.
func alone(lines ...string) string {
	return "vocab a\nend\n" + strings.Join(lines, "\n") + "\n"
}

// within answers a text with a line of a definition as line 3, and one with it as line 4.
func within(line string) (string, string) {
	return "vocab a\nuses b\n" + line + "\nend\n", "vocab a\nuses b\n: c ( -- ) ;\n" + line + "\n: d ( -- ) ;\nend\n"
}

// P16.1: what is read

func TestExamples(t *testing.T) {
	reads(t, example, vocab("a"), using("b", names("a"), def("sq", 1, 1, call("dup"), call("*"))))
	reads(t, "")
	faulty(t, "vocab a\n", 2)
	faulty(t, "vocab a\n1\nend\n", 2)
	faulty(t, "vocab 1\nend\n", 1)
	faulty(t, "vocab a", 1)
}

func TestManifests(t *testing.T) {
	reads(t, "vocab a\nend\n", vocab("a"))
	reads(t, "vocab a\nuses b\nend\n", using("a", names("b")))
	reads(t, "vocab a\nuses d c b\nend\n", using("a", names("d", "c", "b")))
	reads(t, "vocab a\n: x ( -- ) ;\nend\n", vocab("a", def("x", 0, 0)))
	reads(t, "vocab a\nuses b\n: y ( x -- ) drop ;\n: x ( -- n m ) 1 2 ;\nend\n", using("a", names("b"), def("y", 1, 0, call("drop")), def("x", 0, 2, push(api.Int{N: 1}), push(api.Int{N: 2}))))
	// Nothing is held against another manifest, or against what there is.
	reads(t, "vocab a\nuses a q q a\n: x ( -- ) y ;\n: x ( -- ) ;\n: dup ( -- ) ;\nend\nvocab a\nend\nvocab a\nuses a\nend\n", using("a", names("a", "q", "q", "a"), def("x", 0, 0, call("y")), def("x", 0, 0), def("dup", 0, 0)), vocab("a"), using("a", names("a")))
}

// Words that mean something in a manifest are names like any other.
func TestNames(t *testing.T) {
	for _, name := range names("a", "vocab", "uses", "end", ":", ";", "(", "--", "[", "t", "f", "!a", "!!", `a"b`, `\`, "-", "1a", "1٣", "語", "\u0085", "é", "~", strings.Repeat("n", api.MaxName), strings.Repeat("𝛼", api.MaxName)) {
		reads(t, "vocab "+name+"\nend\n", vocab(name))
		reads(t, "vocab a\nuses "+name+"\nend\n", using("a", names(name)))
		reads(t, "vocab "+name+"\nuses b "+name+" c\nend\n", using(name, names("b", name, "c")))
	}
}

// Empty lines are left out, but counted.
func TestEmptyLines(t *testing.T) {
	for _, s := range names("\n", "\n\n\n\n") {
		reads(t, s)
		faulty(t, s+"end\n", len(s)+1)
		reads(t, strings.ReplaceAll(example, "\n", "\n"+s), vocab("a"), using("b", names("a"), def("sq", 1, 1, call("dup"), call("*"))))
		reads(t, s+example, vocab("a"), using("b", names("a"), def("sq", 1, 1, call("dup"), call("*"))))
	}
	faulty(t, "\nvocab a\n\nuses b\n\n\n1\n\nend\n", 7)
	faulty(t, "\n\nvocab a\n\n: x ( -- ) ;\n\nuses b\nend\n", 7)
	faulty(t, "vocab a\nend\n\n\nvocab\n", 5)
	faulty(t, "vocab a\n\nend\n\nvocab b\n\n\n", 8)
	faulty(t, "\n\nvocab a", 3)
}

func TestDefinitions(t *testing.T) {
	body := []api.Item{push(api.Int{N: -3}), push(api.Str{S: "a\n\"\\ ;"}), push(api.Bool{B: true}), push(quot(call("x"), push(quot()))), push(list(api.Bool{}, list(), quot(call("end")))), call("end")}
	want := def("uses", 2, 1, body...)
	for _, line := range names(
		`: uses ( a b -- c ) -3 "a\n\"\\ ;" t [ x [ ] ] { f { } [ end ] } end ;`,
		"\t: \u00a0uses\r(  vocab end --\u3000uses ) −٣ \"a\\n\\\"\\\\ ;\"t [ x [ ] ] { f { } [ end ] } end ;  ",
		`: uses ( a b -- c ) -3 "a\n\"\\ ;" t [ x [ ] ] { f { } [ end ] } end ; ! : other ( -- ) ;`,
	) {
		one, two := within(line)
		reads(t, one, using("a", names("b"), want))
		reads(t, two, using("a", names("b"), def("c", 0, 0), want, def("d", 0, 0)))
	}
}

// P16.1: the first line that can't stand there

// Between manifests stands vocab and one name, with one blank between.
func TestLinesBetween(t *testing.T) {
	for _, line := range names("vocab", "vocab ", "vocab  a", "vocab  ", " vocab a", "vocab a ", "vocab a b", "vocab a a", "vocab\ta", "vocab\u00a0a", "vocab\u3000a", "vocab\ra", "vocab a\r", "vocab a\tb", "Vocab a", "VOCAB a", "vocaba", "vocab: a", "a", "end", "uses a", ": x ( -- ) ;", "1", `"vocab a"`, "!", "! vocab a", " ", "\t", "\r", "\u00a0", "\x00", "\xff", "\ufeffvocab a") {
		faulty(t, line+"\nend\n", 1)
		faulty(t, alone(line, "end"), 3)
		faulty(t, "vocab a\nuses b\n: x ( -- ) ;\nend\n\n"+line+"\n", 6)
	}
}

func TestNoNames(t *testing.T) {
	for _, name := range names("", "1", "-1", "−٣", "٣", "000", "１", "1152921504606846976", "!", `"`, `"a"`, "\x01", "a\x7f", "\ufffd", "a\ufffd", "\xff", "a\xe8\xaa", "a\u3000", "a\u00a0b", strings.Repeat("n", api.MaxName+1), strings.Repeat("9", 1000)) {
		faulty(t, "vocab "+name+"\nend\n", 1)
		faulty(t, alone("vocab "+name, "uses b", "end"), 3)
		for _, uses := range names(name, "b "+name, name+" b", "b "+name+" c") {
			faulty(t, "vocab a\nuses "+uses+"\nend\n", 2)
			faulty(t, alone("vocab a", "uses "+uses, ": x ( -- ) ;", "end"), 4)
		}
	}
}

// What a manifest uses stands in one line, ahead of all definitions.
func TestUses(t *testing.T) {
	for _, line := range names("uses", "uses ", "uses  a", "uses a  b", "uses a ", " uses a", "uses\ta", "uses a\tb", "uses a\u00a0b", "uses a\r", "Uses a", "usesa", "uses: a", "use a") {
		faulty(t, "vocab a\n"+line+"\nend\n", 2)
		faulty(t, "vocab a\n\n"+line+"\n: x ( -- ) ;\nend\n", 3)
	}
	faulty(t, "vocab a\nuses b\nuses c\nend\n", 3)
	faulty(t, "vocab a\nuses b\n\nuses b\nend\n", 4)
	faulty(t, "vocab a\n: x ( -- ) ;\nuses b\nend\n", 3)
	faulty(t, "vocab a\nend\nuses b\n", 3)
}

// A line of a definition is one, and no more.
func TestNoDefinitions(t *testing.T) {
	for _, line := range names(
		// none, two, and what is none
		" ", "\t", "\r", "\u3000", "!", "! : x ( -- ) ;", "x", "1", `"a"`, "t", "[ ]", "{ }",
		": x ( -- ) ; : y ( -- ) ;", ": x ( -- ) ; : x ( -- ) ;", ": x ( -- ) ; 1", "1 : x ( -- ) ;", ": x ( -- ) ; y", ": x ( -- ) ; ;",
		// what the grammar does not know
		":", ": x", ": x ( -- )", ": x ( ) ;", ": x ( a b ) ;", ": x -- ;", ": ( -- ) ;", ": 1 ( -- ) ;", ": t ( -- ) ;", ": \"a\" ( -- ) ;", ": : ( -- ) ;", ": x ( 1 -- ) ;", ": x ( -- ) [ ;", ": x ( -- ) ] ;", ": x ( -- ) { y } ;", ": x ( -- ) : y ( -- ) ; ;", ": x ( -- );", ":x ( -- ) ;", "; x", ": x ( -- ) \"a ;", `: x ( -- ) "\a" ;`,
		// what is no text, name or number
		": x ( -- ) \xff ;", ": x ( -- ) \"\xe8\xaa\" ;", ": x ( -- ) ; ! \xff", ": x ( -- ) \x01 ;", ": x ( -- ) \ufffd ;", ": "+strings.Repeat("n", api.MaxName+1)+" ( -- ) ;", ": x ( -- ) 1152921504606846976 ;", `: x ( -- ) "`+strings.Repeat("a", api.MaxStr+1)+`" ;`,
		// what is too large
		": x ( "+strings.Repeat("a ", api.MaxArgs+1)+"-- ) ;", ": x ( -- "+strings.Repeat("a ", api.MaxArgs+1)+") ;", ": x ( -- ) "+strings.Repeat("a ", api.MaxSize)+";", ": x ( -- ) "+strings.Repeat("[ ", api.MaxNest)+strings.Repeat("] ", api.MaxNest)+";",
		// lines that are others
		"vocab b", "uses b", "uses", "end ", " end", "end\r", "end\t", "End", "ende", "end end", `"end"`, "end ! of a",
	) {
		one, two := within(line)
		faulty(t, one, 3)
		faulty(t, two, 4)
		faulty(t, "vocab a\n"+line+" \nend\n", 2)
	}
}

// A definition is cut where its line ends, be it within a string.
func TestDefinitionsOfTwoLines(t *testing.T) {
	for _, definition := range names(": x ( -- )\n;", ":\nx ( -- ) ;", ": x ( -- ) \"a\nb\" ;", ": x ( -- ) \"\n\" ;", ": x ( -- ) ! a\n;") {
		one, two := within(definition)
		faulty(t, one, 3)
		faulty(t, two, 4)
	}
}

func TestLargeDefinitions(t *testing.T) {
	many := make([]api.Item, api.MaxSize-1)
	for i := range many {
		many[i] = call("y")
	}
	deep := quot()
	for range api.MaxNest - 2 {
		deep = quot(push(deep))
	}
	reads(t, "vocab a\n: x ( "+strings.Repeat("a ", api.MaxArgs)+"-- "+strings.Repeat("a ", api.MaxArgs)+") "+strings.Repeat("y ", api.MaxSize-1)+";\nend\n", vocab("a", def("x", api.MaxArgs, api.MaxArgs, many...)))
	reads(t, "vocab a\n: x ( -- ) "+strings.Repeat("[ ", api.MaxNest-1)+strings.Repeat("] ", api.MaxNest-1)+";\nend\n", vocab("a", def("x", 0, 0, push(deep))))
}

// Where a line has no end, it can't stand there, whatever stands on it.
func TestLinesWithoutEnd(t *testing.T) {
	for at, s := range names("vocab a", "vocab a\nuses b", "vocab a\nuses b\n: x ( -- ) ;", "vocab a\nuses b\n: x ( -- ) ;\nend", "vocab a\nuses b\n: x ( -- ) ;\nend\nvocab b") {
		faulty(t, s, at+1)
		faulty(t, "\n\n"+s, at+3)
		for _, more := range names(" ", "\r", "!", "\xff") {
			faulty(t, s+"\n"+more, at+2)
			faulty(t, s+"\n\n\n"+more, at+4)
		}
	}
	for _, s := range names("a", " ", "end", "\xff") {
		faulty(t, s, 1)
		faulty(t, example+s, 7)
		faulty(t, "\n"+s, 2)
	}
}

// Where an end is missing, the line behind the last can't stand there.
func TestManifestsWithoutEnd(t *testing.T) {
	for at, s := range names("vocab a\n", "vocab a\nuses b\n", "vocab a\nuses b\n: x ( -- ) ;\n", "vocab a\nend\nvocab b\nuses c\n") {
		faulty(t, s, at+2)
		faulty(t, s+"\n\n", at+4)
		faulty(t, "\n"+s+"\n", at+4)
	}
	faulty(t, "vocab a\nvocab b\nend\n", 2)
	faulty(t, "vocab a\nuses c\nvocab b\nend\n", 3)
	faulty(t, "vocab a\n: x ( -- ) ;\nvocab b\nend\nend\n", 3)
	faulty(t, "vocab a\nend\nend\n", 3)
}

// Of several faults the first line's is told.
func TestTheFirstFault(t *testing.T) {
	faulty(t, "vocab a\nuses 1\n2\nvocab 3", 2)
	faulty(t, "vocab a\nuses b\n2\nuses 1\nvocab 3", 3)
	faulty(t, "vocab a\nuses b\n: x ( -- ) ;\nend\n\xff\nuses 1\nvocab 3", 5)
	faulty(t, "vocab \xff\n\xff", 1)
	faulty(t, "vocab a\nend\nvocab b\n: x ( -- ) \xff ;\n\x00", 4)
	faulty(t, "vocab a\nend\nvocab b\nuses 1", 4)
}

// P16.1: the size of a text

func TestLargeTexts(t *testing.T) {
	whole := strings.Repeat("vocab a\nend\n", api.MaxText/12)
	full := whole + strings.Repeat("\n", api.MaxText-len(whole))
	want := make([]api.Manifest, api.MaxText/12)
	for i := range want {
		want[i] = vocab("a")
	}
	reads(t, full, want...)
	refuses(t, full+"\n", 0, api.ErrLarge)
	reads(t, strings.Repeat("\n", api.MaxText))
	faulty(t, strings.Repeat("\n", api.MaxText-1)+"a", api.MaxText)
	faulty(t, "vocab a\n"+strings.Repeat("\n", api.MaxText-8), api.MaxText-6)
	faulty(t, strings.Repeat("a", api.MaxText), 1)
	for _, s := range names(strings.Repeat("\n", api.MaxText+1), strings.Repeat("a", api.MaxText+1), "1\n"+strings.Repeat("\xff", api.MaxText), strings.Repeat("語", api.MaxText/3+1), strings.Repeat("a", 1<<22)) {
		refuses(t, s, 0, api.ErrLarge)
	}
	// The text's size is counted in bytes.
	most := "uses " + strings.TrimSuffix(strings.Repeat("語 ", (api.MaxText-17)/4), " ")
	reads(t, "vocab a\n"+most+"\nend\n", using("a", strings.Fields(most)[1:]))
}
