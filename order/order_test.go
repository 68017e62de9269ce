package order_test

import (
	"slices"
	"strings"
	"testing"

	"quire/api"
	"quire/order"
)

func uses(name string, all ...string) api.Vocab { return api.Vocab{Name: name, Uses: all} }
func vocabs(all ...api.Vocab) []api.Vocab       { return all }
func names(all ...string) []string              { return all }

// net reads vocabularies from a text as "a: b c; b: c; c".
func net(text string) (list []api.Vocab) {
	for part := range strings.SplitSeq(text, ";") {
		name, used, _ := strings.Cut(part, ":")
		if name = strings.TrimSpace(name); name != "" {
			list = append(list, uses(name, strings.Fields(used)...))
		}
	}
	return list
}

// sorts fails the test, unless Sort answers that order.
func sorts(t *testing.T, list []api.Vocab, want, have, out []string) {
	t.Helper()
	got, which, e := order.Sort(list, want, have)
	if !slices.Equal(got, out) || which != "" || e != api.OK {
		t.Errorf("Sort of %v for %q with %q: %q, %q, %d, want %q", list, want, have, got, which, e, out)
	}
}

// refuses fails the test, unless Sort answers that error and that name, and nothing else.
func refuses(t *testing.T, list []api.Vocab, want, have []string, name string, err api.Errno) {
	t.Helper()
	got, which, e := order.Sort(list, want, have)
	if len(got) != 0 || which != name || e != err {
		t.Errorf("Sort of %v for %q with %q: %q, %q, %d, want %q, %d", list, want, have, got, which, e, name, err)
	}
}

// levels fails the test, unless Levels answers those lists, which a text tells as "c z; b; a".
func levels(t *testing.T, list []api.Vocab, out string) {
	t.Helper()
	got, e := order.Levels(list)
	var parts []string
	for _, level := range got {
		parts = append(parts, strings.Join(level, " "))
	}
	if strings.Join(parts, "; ") != out || e != api.OK {
		t.Errorf("Levels of %v: %q, %d, want %s", list, got, e, out)
	}
}

// noLevels fails the test, unless Levels answers that error alone.
func noLevels(t *testing.T, list []api.Vocab, err api.Errno) {
	t.Helper()
	if got, e := order.Levels(list); len(got) != 0 || e != err {
		t.Errorf("Levels of %v: %q, %d, want %d", list, got, e, err)
	}
}

func TestTheExample(t *testing.T) {
	list := net("a: b c; b: c; c; z")
	sorts(t, list, names("a", "z"), nil, names("c", "b", "a", "z"))
	sorts(t, list, names("b"), names("c"), names("b"))
	refuses(t, net("a: b c; b: c; c: a; z"), names("a"), nil, "a", api.ErrCycle)
	refuses(t, list, names("q"), nil, "q", api.ErrNone)
	levels(t, list, "c z; b; a")
}

// P15.1: what is wanted

func TestWhatIsWanted(t *testing.T) {
	list := net("a: b c; b: d; c: d; d; e: a; f")
	for _, c := range []struct{ want, have, out string }{
		{"", "", ""},
		{"", "a b", ""},
		{"d", "", "d"},
		{"b", "", "d b"},
		{"a", "", "d b c a"},
		{"f e", "", "d b c a e f"},
		{"e", "", "d b c a e"},
		{"a a d a", "", "d b c a"},
		{"f f", "", "f"},
		// what is there is left out, and what only it uses, too
		{"a", "a", ""},
		{"a", "d", "b c a"},
		{"a", "b", "d c a"},
		{"a", "b c", "a"},
		{"a", "b c d", "a"},
		{"e", "a", "e"},
		{"e b", "a", "d b e"},
		{"e b", "a a d a", "b e"},
		{"a b c d e f", "f e d c b a", ""},
		{"a b c d e f", "f e d", "b c a"},
		// what is there need not be in the list
		{"f", "q r", "f"},
		{"q", "q", ""},
		{"q f", "r q", "f"},
	} {
		sorts(t, list, strings.Fields(c.want), strings.Fields(c.have), strings.Fields(c.out))
	}
}

// What is there already may be used without being in the list.
func TestUsesOfWhatIsThere(t *testing.T) {
	sorts(t, net("a: q b; b: r"), names("a"), names("q", "r"), names("b", "a"))
	refuses(t, net("a: q b; b: r"), names("a"), names("q"), "r", api.ErrNone)
	refuses(t, net("a: q b; b: r"), names("a"), names("r"), "q", api.ErrNone)
	// r is used by what is there alone
	sorts(t, net("a: b; b: r"), names("a"), names("b"), names("a"))
}

// P15.1: ErrTwice

func TestTwice(t *testing.T) {
	for _, c := range []struct{ list, which string }{
		{"a; a", "a"},
		{"a; b; a", "a"},
		{"a; a; a", "a"},
		{"b; c; c; b", "b"},
		{"c; b; b; c; a", "b"},
		{"a; b; a: b", "a"},
		// the name of the one whose Uses do, not the doubled one
		{"z: a a; a", "z"},
		{"z: a b a; a; b", "z"},
		{"b: a a; a; c: a a", "b"},
		{"c: a a; a; b: a a", "b"},
		// those need not be in the list, nor another than it
		{"b: x y z x", "b"},
		{"b: b b", "b"},
		// the least of both sorts
		{"a: z z; z; b; b", "a"},
		{"c: z z; z; b; b", "b"},
		{"b; b; a: z z", "a"},
		{"b; b; b: z z", "b"},
		{"b; b: z z; d; d; c: y y", "b"},
	} {
		list := net(c.list)
		refuses(t, list, nil, nil, c.which, api.ErrTwice)
		noLevels(t, list, api.ErrTwice)
		// It counts wherever it stands, ahead of all else.
		for _, other := range []string{"q", "k", "a b c z", "n"} {
			refuses(t, append(net("k: k; n: missing"), list...), strings.Fields(other), nil, c.which, api.ErrTwice)
			refuses(t, append(list, net("k: k; n: missing")...), strings.Fields(other), names("a", "b", "c", "z"), c.which, api.ErrTwice)
		}
	}
}

// Only the list may not have one twice: neither two that use the same, nor want nor have.
func TestNotTwice(t *testing.T) {
	sorts(t, net("a: c; b: c; c"), names("a", "b", "a", "b"), nil, names("c", "a", "b"))
	sorts(t, net("a: c; b: c; c"), names("a", "b"), names("c", "c"), names("a", "b"))
}

// P15.1: ErrNone

func TestMissing(t *testing.T) {
	list := net("a: b; b: m; c: n m; d: c; e: d; f: e z; g")
	for _, c := range []struct{ want, have, which string }{
		{"q", "", "q"},
		{"q p r", "", "p"},
		{"a", "", "m"},
		{"b", "", "m"},
		{"c", "", "m"},
		{"d", "m", "n"},
		{"f", "", "m"},
		{"f", "m", "n"},
		{"f", "m n", "z"},
		{"f", "c", "z"},
		{"g q", "", "q"},
		{"f k", "", "k"},
		{"a n", "m", "n"},
		{"g M", "", "M"},
	} {
		refuses(t, list, strings.Fields(c.want), strings.Fields(c.have), c.which, api.ErrNone)
	}
	noLevels(t, list, api.ErrNone)
	noLevels(t, net("a: b"), api.ErrNone)
	sorts(t, list, names("g"), nil, names("g"))
	sorts(t, list, names("a", "f"), names("m", "n", "z"), names("b", "a", "c", "d", "e", "f"))
	refuses(t, nil, names("a"), nil, "a", api.ErrNone)
	refuses(t, nil, names("b", "a"), names("a"), "b", api.ErrNone)
}

// P15.1: ErrCycle

func TestCircles(t *testing.T) {
	for _, c := range []struct{ list, want, have, which string }{
		{"a: a", "a", "", "a"},
		{"a: b; b: b", "a", "", "b"},
		{"a: b; b: a", "a", "", "a"},
		{"a: b; b: a", "b", "", "a"},
		{"a: b; b: c; c: b", "a", "", "b"},
		{"a: b; b: c; c: d; d: c", "a", "", "c"},
		{"z: y; y: x; x: z", "y", "", "x"},
		{"c: d; d: e; e: c; a: c", "a", "", "c"},
		// what is used by a circle lies on none
		{"c: d a; d: c; a; b", "b c", "", "c"},
		{"c: d a; d: c; a: b; b", "d", "", "c"},
		// nor does what is between two
		{"y: z m; z: y; m: n; n: o; o: x; x: w; w: x", "y", "", "w"},
		{"r: s a; s: r; a: b; b: c; c: t; t: u; u: t", "r", "", "r"},
		{"t: u a; u: t; a: b; b: c; c: r; r: s; s: r", "t", "", "r"},
		// two with one place in common, and two apart
		{"m: a z; a: m; z: m", "z", "", "a"},
		{"m: y z; y: m; z: m", "z", "", "m"},
		{"p: q; q: p; g: h; h: g", "p g", "", "g"},
		{"p: q; q: p; g: h; h: g", "p", "", "p"},
		{"p: p; g: h; h: g", "p h", "", "g"},
		{"g: g; p: q; q: p", "p g", "", "g"},
		// a circle with a way round within
		{"d: e f; e: g; f: g; g: d", "f", "", "d"},
		{"e: f; f: g h; g: c; c; h: e", "e", "", "e"},
		// part of them is there already
		{"a: b; b: c; c: a; d: e; e: d", "a d", "b", "d"},
		{"a: b a; b: c; c: a", "a", "b", "a"},
	} {
		refuses(t, net(c.list), strings.Fields(c.want), strings.Fields(c.have), c.which, api.ErrCycle)
		noLevels(t, net(c.list), api.ErrCycle)
	}
}

// Only what is wanted may not lie on a circle.
func TestCirclesThatAreNotWanted(t *testing.T) {
	list := net("a: b; b: c; c: a; d: b e; e; f: f; g: d f")
	sorts(t, list, names("e"), nil, names("e"))
	sorts(t, list, names("d"), names("b"), names("e", "d"))
	sorts(t, list, names("a"), names("b"), names("a"))
	sorts(t, list, names("a", "b"), names("c"), names("b", "a"))
	sorts(t, list, names("g", "f"), names("f", "c"), names("b", "e", "d", "g"))
	refuses(t, list, names("g", "f"), names("f"), "a", api.ErrCycle)
	refuses(t, list, names("g", "f"), names("a"), "f", api.ErrCycle)
	noLevels(t, list, api.ErrCycle)
}

// P15.1: the errors in their order

func TestWhichError(t *testing.T) {
	refuses(t, net("b: b; c: z; c"), names("b", "c"), nil, "c", api.ErrTwice)
	refuses(t, net("b: b; c: z z; a: a"), names("a", "b", "c", "q"), nil, "c", api.ErrTwice)
	refuses(t, net("a: a; b: z"), names("a", "b"), nil, "z", api.ErrNone)
	refuses(t, net("a: b; b: a z"), names("a"), nil, "z", api.ErrNone)
	refuses(t, net("a: a; b: z"), names("a"), nil, "a", api.ErrCycle)
	refuses(t, net("a: a; b: z"), names("a", "b"), names("z"), "a", api.ErrCycle)
	noLevels(t, net("b: b; c: z; c"), api.ErrTwice)
	noLevels(t, net("a: a; b: z"), api.ErrNone)
	noLevels(t, net("a: a; b"), api.ErrCycle)
}

// P15.1, P6: the least order

func TestTheLeastOrder(t *testing.T) {
	for _, c := range []struct{ list, want, out string }{
		{"c; b; a", "c b a", "a b c"},
		{"a: z; z; b; c", "a b c", "b c z a"},
		{"a: z; z; b; c", "z c b a", "b c z a"},
		// a comes as soon as it may, and not only when all that may come at once has
		{"b: d; d; e; a: b", "a e", "d b a e"},
		{"a: c; c; b: d; d", "a b", "c a d b"},
		{"z: a; a: y; y: b; b: x; x", "z", "x b y a z"},
		{"a: m; b: m; c: a b; m; l", "c l", "l m a b c"},
		{"a: x y; b: y; x; y", "a b", "x y a b"},
		{"a: x y; b: x; x; y", "a b", "x b y a"},
		{"d: a b c; a: b c; b: c; c", "d", "c b a d"},
		// names are compared by bytes
		{"a; Z; é; z; aa; ~; 日; 10; 9", "a Z é z aa ~ 日 10 9", "10 9 Z a aa z ~ é 日"},
		{"ab: a!; a!: b; b; a", "a ab", "a b a! ab"},
	} {
		sorts(t, net(c.list), strings.Fields(c.want), nil, strings.Fields(c.out))
		backward := net(c.list)
		slices.Reverse(backward)
		for _, v := range backward {
			slices.Reverse(v.Uses)
		}
		sorts(t, backward, strings.Fields(c.want), nil, strings.Fields(c.out))
	}
}

// R1: names that are none count as names here.
func TestNamesThatAreNone(t *testing.T) {
	long := strings.Repeat("n", api.MaxName+1)
	list := vocabs(uses("", "\xff", " "), uses("\xff", "1"), uses("1"), uses(" "), uses(long, ""), uses("\xfe\x00"), uses("\xfe"))
	sorts(t, list, names("", long), nil, names(" ", "1", "\xff", "", long))
	sorts(t, list, names("\xff", "\xfe", "\xfe\x00"), nil, names("1", "\xfe", "\xfe\x00", "\xff"))
	sorts(t, list, names(long), names(""), names(long))
	levels(t, vocabs(uses("", "a"), uses("a")), "a; ")
	refuses(t, vocabs(uses("a"), uses("a"), uses("", "b", "b")), names("c"), nil, "", api.ErrTwice)
	refuses(t, vocabs(uses("a"), uses("a"), uses(""), uses("")), names("c"), nil, "", api.ErrTwice)
	refuses(t, vocabs(uses("a", "", "")), nil, nil, "a", api.ErrTwice)
	refuses(t, vocabs(uses("a", ""), uses("b", "b")), names("b", "a"), nil, "", api.ErrNone)
	refuses(t, vocabs(uses("a", "a"), uses("", "")), names("a", ""), nil, "", api.ErrCycle)
	refuses(t, vocabs(uses("\xff", "\xfe"), uses("\xfe", "\xff")), names("\xff"), nil, "\xfe", api.ErrCycle)
}

func TestNothing(t *testing.T) {
	for _, none := range [][]string{nil, {}} {
		sorts(t, nil, none, none, nil)
		sorts(t, vocabs(), none, names("a"), nil)
		sorts(t, nil, names("a"), names("a"), nil)
		sorts(t, vocabs(api.Vocab{Name: "a", Uses: none}), names("a"), none, names("a"))
	}
	sorts(t, vocabs(api.Vocab{}), names(""), nil, names(""))
	levels(t, nil, "")
	levels(t, vocabs(), "")
	if got, e := order.Levels(nil); len(got) != 0 || e != api.OK {
		t.Errorf("Levels of nothing: %q, %d", got, e)
	}
}

// P15.2: levels

func TestLevels(t *testing.T) {
	for _, c := range []struct{ list, out string }{
		{"a", "a"},
		{"c; a; b", "a b c"},
		{"a: b; b", "b; a"},
		{"a: b; b: c; c: d; d", "d; c; b; a"},
		// the longest way counts
		{"a: b d; b: c d; c: d; d", "d; c; b; a"},
		{"a: d c; c: d; d; b: d; e: b a", "d; b c; a; e"},
		{"z; y: z; x: z y; w: z; v: w", "z; w y; v x"},
		{"b: a; d: c; a; c; e: a b c d", "a c; b d; e"},
		{"é: a; Z: a; a; b: Z; B: é", "a; Z é; B b"},
	} {
		levels(t, net(c.list), c.out)
		backward := net(c.list)
		slices.Reverse(backward)
		levels(t, backward, c.out)
	}
}

// R5: nothing is kept from call to call.
func TestCallsAreApart(t *testing.T) {
	list := net("a: b c; b: d; c: d; d; e: e; f: q")
	for range 3 {
		sorts(t, list, names("a"), nil, names("d", "b", "c", "a"))
		refuses(t, list, names("e"), nil, "e", api.ErrCycle)
		refuses(t, list, names("f"), nil, "q", api.ErrNone)
		noLevels(t, list, api.ErrNone)
		levels(t, list[:4], "d; b c; a")
		refuses(t, append(net("b"), list...), nil, nil, "b", api.ErrTwice)
	}
}
