package effect_test

import (
	"math"
	"slices"
	"strings"
	"testing"

	"quire/api"
	"quire/effect"
	"quire/parse"
)

func call(name string) api.Item         { return api.Call{Name: name} }
func push(v api.Value) api.Item         { return api.Push{V: v} }
func num(n int64) api.Value             { return api.Int{N: n} }
func list(items ...api.Value) api.Value { return api.List{Items: items} }
func quot(items ...api.Item) api.Value  { return api.Quot{Items: items} }
func items(list ...api.Item) []api.Item { return list }

func known(name string, in, out int) api.Known {
	return api.Known{Name: name, Effect: api.Effect{In: in, Out: out}}
}

// words answers words that the sources of the tests call.
func words() []api.Known {
	return []api.Known{known("sq", 1, 1), known("two", 0, 2), known("eat3", 3, 0), known("all", api.MaxArgs, api.MaxArgs), known("none", 0, 0), known("more", 0, api.MaxArgs), known("less", api.MaxArgs, 0)}
}

func read(t *testing.T, source string) []api.Item {
	t.Helper()
	list, at, e := parse.Items(source)
	if e != api.OK {
		t.Fatalf("Items(%q): %d at %d", short(source), e, at)
	}
	return list
}

// short cuts a long text for a message.
func short(s string) string {
	if len(s) > 80 {
		return s[:80] + " .."
	}
	return s
}

// has holds the effect of a source, wherever its items come from.
func has(t *testing.T, source string, in, out int) {
	t.Helper()
	want := api.Effect{In: in, Out: out}
	if x, e := effect.Of(read(t, source), words()); x != want || e != api.OK {
		t.Errorf("Of(%s): %v, %d, want %v", short(source), x, e, want)
	}
}

// fails holds that a source has no effect.
func fails(t *testing.T, source string, want api.Errno) {
	t.Helper()
	if x, e := effect.Of(read(t, source), words()); x != (api.Effect{}) || e != want {
		t.Errorf("Of(%s): %v, %d, want %d", short(source), x, e, want)
	}
}

func many(n int, word string) string { return strings.Repeat(word+" ", n) }

func TestExamples(t *testing.T) {
	has(t, "dup *", 1, 1)
	has(t, "swap drop", 2, 1)
	has(t, "[ 1 ] [ 2 ] if", 1, 1)
	fails(t, "[ 1 ] [ ] if", api.ErrEffect)
	fails(t, "call", api.ErrEffect)
	has(t, "[ + ] dip", 3, 2)
	has(t, "[ drop ] each", 1, 0)
	has(t, "3 [ dup * ] times", 1, 1)
	fails(t, "foo", api.ErrName)
}

// P9.1: item by item

func TestPushes(t *testing.T) {
	has(t, "", 0, 0)
	has(t, "1", 0, 1)
	has(t, `1 "a" t f { } { 1 { 2 } } [ ] [ foo ]`, 0, 8)
	if x, e := effect.Of(nil, nil); x != (api.Effect{}) || e != api.OK {
		t.Errorf("Of(nil, nil): %v, %d", x, e)
	}
	if x, e := effect.Of(items(push(api.Box{N: 3}), push(list(api.Box{N: api.MaxBoxes}))), nil); x != (api.Effect{Out: 2}) || e != api.OK {
		t.Errorf("Of two boxes: %v, %d", x, e)
	}
}

// What is no quotation that the items have pushed is not known: neither are quotations within lists, nor what comes from below, or out of a word.
func TestWhatIsNotKnown(t *testing.T) {
	for _, v := range []string{"", "1", "t", `"a"`, "{ }", "{ [ 1 ] }", "sq", "two", "[ 1 ] sq", "[ 1 ] wrap unpair", "[ 1 ] [ 2 ] compose", "1 [ 2 ] curry", "{ [ 1 ] } unpair", "[ 1 ] box get", "[ ] [ ] append", "[ 1 ] none +", "[ 1 ] all", "t [ [ 1 ] ] [ [ 2 ] ] if", "[ 1 ] t [ ] [ dup drop ] if", "[ 1 ] t [ dup drop ] when", "[ 1 ] 0 [ dup drop ] times", "[ 1 ] [ dup drop f ] loop", "[ 1 ] { } [ drop dup drop ] each"} {
		for _, name := range []string{"call", "dip", "keep", "when", "times", "each", "loop", "[ ] if", "[ ] swap if"} {
			fails(t, "1 1 1 "+v+" "+name, api.ErrEffect)
		}
		fails(t, "1 1 1 "+v+" [ 1 ] dip call call", api.ErrEffect)
	}
	has(t, "[ 1 ] none call", 0, 1)
	has(t, "[ 1 ] 1 sq drop call", 0, 1)
	has(t, "[ 1 ] t [ 1 drop ] when call", 0, 1)
	has(t, "[ 1 ] t [ 1 ] [ 2 ] if drop call", 0, 1)
	has(t, "[ 1 ] { } [ drop ] each call", 0, 1)
	has(t, "[ 1 ] [ f ] loop call", 0, 1)
	has(t, "[ 1 ] 9 [ ] times call", 0, 1)
}

// The words that move values, by what is known behind them: 1 2 and 3 numbers come of the quotations q, r and s.
func TestMoves(t *testing.T) {
	const q, r, s = "[ 1 ] ", "[ 1 1 ] ", "[ 1 1 1 ] "
	has(t, q+"dup call", 0, 2)
	has(t, q+"dup call drop call", 0, 1)
	has(t, q+"dup drop call", 0, 1)
	fails(t, q+"1 dup drop call", api.ErrEffect)
	has(t, q+r+"drop call", 0, 1)
	has(t, q+r+"swap call", 0, 2)
	has(t, q+r+"swap drop call", 0, 2)
	has(t, q+r+"over call", 0, 3)
	has(t, q+r+"over drop call", 0, 3)
	has(t, q+r+"over drop drop call", 0, 1)
	has(t, q+r+s+"rot call", 0, 3)
	has(t, q+r+s+"rot drop call", 0, 4)
	has(t, q+r+s+"rot drop drop call", 0, 2)
	has(t, q+r+"nip call", 0, 2)
	has(t, q+q+r+"nip drop call", 0, 1)
	has(t, q+r+"tuck call", 0, 4)
	has(t, q+r+"tuck drop call", 0, 2)
	has(t, q+r+"tuck drop drop call", 0, 2)
}

func TestMovesFromBelow(t *testing.T) {
	has(t, "dup", 1, 2)
	has(t, "drop", 1, 0)
	has(t, "swap", 2, 2)
	has(t, "1 swap", 1, 2)
	has(t, "over", 2, 3)
	has(t, "1 over", 1, 3)
	has(t, "rot", 3, 3)
	has(t, "1 rot", 2, 3)
	has(t, "1 2 rot", 1, 3)
	has(t, "nip", 2, 1)
	has(t, "1 nip", 1, 1)
	has(t, "tuck", 2, 3)
	has(t, "1 tuck", 1, 3)
	has(t, "[ 1 ] swap drop call", 1, 1)
	has(t, "[ 1 ] rot drop call", 2, 2)
	has(t, "[ 1 ] tuck drop swap call", 1, 2)
	has(t, "[ 1 ] tuck call", 1, 3)
	fails(t, "[ 1 ] swap call", api.ErrEffect)
	fails(t, "[ 1 ] over call", api.ErrEffect)
	fails(t, "[ 1 ] rot call", api.ErrEffect)
	fails(t, "[ 1 ] tuck drop call", api.ErrEffect)
}

func TestCall(t *testing.T) {
	has(t, "[ ] call", 0, 0)
	has(t, "[ 1 2 + ] call", 0, 1)
	has(t, "[ + ] call", 2, 1)
	has(t, "1 [ + ] call", 1, 1)
	has(t, "[ [ 1 ] ] call call", 0, 1)
	has(t, "[ [ + ] call ] call", 2, 1)
	has(t, "[ 1 ] [ call ] call", 0, 1)
	has(t, "[ 1 ] dup call swap call", 0, 2)
	fails(t, "1 call", api.ErrEffect)
	fails(t, "[ call ] call", api.ErrEffect)
	fails(t, "[ foo ] call", api.ErrName)
}

// dip and keep leave x as it was, so a quotation stays known.
func TestDipAndKeep(t *testing.T) {
	has(t, "[ ] dip", 1, 1)
	has(t, "1 [ ] dip", 0, 1)
	has(t, "1 [ 2 3 ] dip", 0, 3)
	has(t, "1 [ + ] dip", 2, 2)
	has(t, "[ 5 ] [ 6 ] dip call", 0, 2)
	has(t, "[ 5 ] 1 [ call ] dip", 0, 2)
	has(t, "[ [ 5 ] ] dip drop call", 1, 1)
	has(t, "[ ] keep", 1, 2)
	has(t, "[ drop ] keep", 1, 1)
	has(t, "[ + ] keep", 2, 2)
	has(t, "1 [ + ] keep", 1, 2)
	has(t, "[ 5 ] [ call ] keep call", 0, 2)
	has(t, "[ 5 ] [ drop ] keep call", 0, 1)
	has(t, "[ 5 ] [ ] keep drop call", 0, 1)
	fails(t, "[ 5 ] [ call ] dip", api.ErrEffect)
	fails(t, "dip", api.ErrEffect)
	fails(t, "keep", api.ErrEffect)
	fails(t, "[ 1 ] 2 dip", api.ErrEffect)
	fails(t, "[ 1 ] 2 keep", api.ErrEffect)
	fails(t, "[ call ] keep", api.ErrEffect)
}

func TestIf(t *testing.T) {
	has(t, "t [ ] [ ] if", 0, 0)
	has(t, "[ ] [ ] if", 1, 0)
	has(t, "[ 1 2 ] [ two ] if", 1, 2)
	has(t, "[ drop ] [ + ] if", 3, 1)
	has(t, "[ + ] [ drop ] if", 3, 1)
	has(t, "1 2 t [ drop ] [ + ] if", 0, 1)
	has(t, "[ dup ] [ 1 ] if", 2, 2)
	has(t, "[ 1 ] [ dup ] if", 2, 2)
	has(t, "[ rot ] [ ] if", 4, 3)
	has(t, "[ ] [ rot ] if", 4, 3)
	has(t, "1 2 3 4 t [ drop drop ] [ eat3 1 ] if", 0, 2)
	has(t, "[ 1 ] dup if", 1, 1)
	has(t, "t [ 1 ] [ 2 ] swap if", 0, 1)
	has(t, "[ 9 ] t [ 1 ] [ 2 ] if drop call", 0, 1)
	for _, s := range []string{"[ 1 ] [ ] if", "[ ] [ 1 ] if", "[ 1 ] [ drop ] if", "[ drop ] [ ] if", "[ + ] [ ] if", "[ dup ] [ ] if", "if", "[ ] if", "t [ ] if", "[ ] t if", "t t [ ] if", "1 2 if", "[ call ] [ call ] if", "t [ 1 ] [ [ ] [ 1 ] if ] if"} {
		fails(t, s, api.ErrEffect)
	}
}

func TestWhenAndTimes(t *testing.T) {
	for _, name := range []string{"when", "times"} {
		has(t, "[ ] "+name, 1, 0)
		has(t, "1 [ ] "+name, 0, 0)
		has(t, "[ dup * ] "+name, 2, 1)
		has(t, "3 [ dup * ] "+name, 1, 1)
		has(t, "5 3 [ dup * ] "+name, 0, 1)
		has(t, "[ swap ] "+name, 3, 2)
		has(t, "1 2 [ all ] "+name, 15, 16)
		has(t, "[ 1 drop ] "+name, 1, 0)
		has(t, "[ drop 1 ] "+name, 2, 1)
		has(t, "[ 1 ] t [ none ] "+name+" call", 0, 1)
		for _, s := range []string{"", "[ 1 ]", "[ drop ]", "[ dup ]", "[ + ]", "1 1", "[ ] 1", "[ call ]", "[ [ 1 ] call ]"} {
			fails(t, s+" "+name, api.ErrEffect)
		}
	}
}

func TestLoop(t *testing.T) {
	has(t, "[ f ] loop", 0, 0)
	has(t, "[ dup ] loop", 1, 1)
	has(t, "10 [ 1 - dup 0 > ] loop", 0, 1)
	has(t, "[ 1 - dup 0 > ] loop", 1, 1)
	has(t, "[ over ] loop", 2, 2)
	for _, s := range []string{"", "[ ]", "[ 1 2 ]", "[ drop ]", "[ swap ]", "[ + ]", "t", "[ f ] 1", "[ call f ]"} {
		fails(t, s+" loop", api.ErrEffect)
	}
}

func TestEach(t *testing.T) {
	has(t, "[ drop ] each", 1, 0)
	has(t, "{ 1 2 } [ drop ] each", 0, 0)
	has(t, "[ + ] each", 2, 1)
	has(t, "{ 1 2 3 } 0 swap [ + ] each", 0, 1)
	has(t, "[ rot drop ] each", 3, 2)
	has(t, "[ eat3 1 1 ] each", 3, 2)
	has(t, "[ 1 ] { } [ drop 1 drop ] each call", 0, 1)
	for _, s := range []string{"", "[ ]", "[ 1 ]", "[ dup ]", "[ swap ]", "[ eat3 ]", "[ eat3 1 ]", "{ }", "[ drop ] { }", "[ drop call ]", "[ 1 drop ]"} {
		fails(t, s+" each", api.ErrEffect)
	}
}

func TestKnownWords(t *testing.T) {
	has(t, "sq sq", 1, 1)
	has(t, "two eat3", 1, 0)
	has(t, "two two eat3", 0, 1)
	has(t, "eat3 two", 3, 2)
	has(t, "all", 16, 16)
	has(t, "all all", 16, 16)
	has(t, "1 all drop", 15, 15)
	has(t, "none", 0, 0)
	has(t, "[ two ] [ 1 2 ] if", 1, 2)
}

// Of several with one name the first counts, and a primitive's name does not count.
func TestWhichKnownWord(t *testing.T) {
	for _, c := range []struct {
		known []api.Known
		want  api.Effect
	}{
		{[]api.Known{known("a", 1, 2), known("a", 3, 4), known("b", 5, 6), known("a", 0, 0)}, api.Effect{In: 1, Out: 2}},
		{[]api.Known{known("b", 1, 2), known("a", 0, 0), known("a", 3, 4)}, api.Effect{}},
		{[]api.Known{known("A", 1, 2), known("", 1, 2), known("a ", 1, 2), known("a", 3, 4)}, api.Effect{In: 3, Out: 4}},
	} {
		if x, e := effect.Of(items(call("a")), c.known); x != c.want || e != api.OK {
			t.Errorf("Of(a) with %v: %v, %d, want %v", c.known, x, e, c.want)
		}
	}
	for name, want := range primitives(t) {
		if x, e := effect.Of(items(call(name)), []api.Known{known(name, 9, 9)}); x != want || e != api.OK {
			t.Errorf("Of(%s): %v, %d, want %v", name, x, e, want)
		}
	}
	for _, name := range codeWords() {
		if x, e := effect.Of(items(call(name)), []api.Known{known(name, 9, 9)}); x != (api.Effect{}) || e != api.ErrEffect {
			t.Errorf("Of(%s): %v, %d", name, x, e)
		}
	}
}

// A name is looked for when its item is gone through, not ahead of it.
func TestNames(t *testing.T) {
	for _, s := range []string{"foo", "1 foo", "foo 1", "Dup", "DUP", "dup2", "unknown-word", "[ foo ] call", "t [ foo ] when", "t [ 1 ] [ foo ] if", "box! drop"} {
		fails(t, s, api.ErrName)
	}
	has(t, "[ foo ]", 0, 1)
	has(t, "[ foo ] drop", 0, 0)
	has(t, "{ [ foo ] } [ 1 ] call", 0, 2)
	if x, e := effect.Of(items(call("sq")), nil); x != (api.Effect{}) || e != api.ErrName {
		t.Errorf("Of(sq) with nothing known: %v, %d", x, e)
	}
}

// The first fault counts, in the order in which items are gone through.
func TestFirstFault(t *testing.T) {
	fails(t, "foo call", api.ErrName)
	fails(t, "call foo", api.ErrEffect)
	fails(t, "1 call foo", api.ErrEffect)
	fails(t, "[ foo ] call call", api.ErrName)
	fails(t, "[ call ] call foo", api.ErrEffect)
	fails(t, "[ call foo ] call", api.ErrEffect)
	fails(t, "[ foo call ] call", api.ErrName)
	fails(t, "1 [ foo ] dip call", api.ErrName)
	fails(t, "[ foo ] 1 dip", api.ErrEffect)
	fails(t, "1 [ call ] keep foo", api.ErrEffect)
	// The quotations are taken ahead of their own effects, and the lower one's comes first.
	fails(t, "t [ foo ] [ call ] if", api.ErrName)
	fails(t, "t [ call ] [ foo ] if", api.ErrEffect)
	fails(t, "t 1 [ foo ] if", api.ErrEffect)
	fails(t, "t [ foo ] 1 if", api.ErrEffect)
	fails(t, "t [ 1 ] [ foo ] if", api.ErrName)
	fails(t, "t [ foo ] [ 1 ] if", api.ErrName)
	fails(t, "t [ ] [ 1 ] if foo", api.ErrEffect)
	fails(t, "t [ 1 ] when foo", api.ErrEffect)
	fails(t, "t [ 1 foo ] when", api.ErrName)
	fails(t, "t [ 1 ] times foo", api.ErrEffect)
	fails(t, "[ foo ] loop", api.ErrName)
	fails(t, "[ ] loop foo", api.ErrEffect)
	fails(t, "{ } [ foo ] each", api.ErrName)
	fails(t, "{ } [ ] each foo", api.ErrEffect)
	// More than MaxArgs is told at the end alone.
	fails(t, many(17, "1")+"foo", api.ErrName)
	fails(t, many(17, "drop")+"call", api.ErrEffect)
}

// P9.2

// primitives answers the primitives and their effects, cut out of the table of chapter 12.
func primitives(t *testing.T) map[string]api.Effect {
	t.Helper()
	const table = `dup ( x -- x x ) drop ( x -- ) swap ( x y -- y x ) over ( x y -- x y x ) rot ( x y z -- y z x ) nip ( x y -- y ) tuck ( x y -- y x y )
		+ - * / mod ( n m -- n ) neg abs ( n -- n ) min max ( n m -- n ) < > ( n m -- b ) = ( x y -- b ) and or ( b c -- b ) not ( b -- b )
		int? str? bool? list? quot? box? ( x -- b ) length ( s -- n ) append ( s t -- u ) nth ( n s -- x ) slice ( n m s -- u )
		wrap ( x -- l ) pair ( x y -- l ) unpair ( l -- x y ) reverse ( s -- u ) curry ( x q -- q ) compose ( q r -- q ) >str ( x -- s ) >int ( s -- n )
		box ( x -- x ) get ( x -- x ) put ( x y -- ) . ( x -- )`
	all := map[string]api.Effect{}
	for _, part := range strings.Split(table, " )") {
		names, shape, ok := strings.Cut(part, " ( ")
		if !ok {
			continue
		}
		in, out, ok := strings.Cut(shape+" ", "-- ")
		if !ok {
			t.Fatalf("no effect: %q", part)
		}
		for _, name := range strings.Fields(names) {
			all[name] = api.Effect{In: len(strings.Fields(in)), Out: len(strings.Fields(out))}
		}
	}
	if len(all) != 52-len(codeWords()) {
		t.Fatalf("%d primitives have an effect", len(all))
	}
	return all
}

func codeWords() []string {
	return []string{"call", "dip", "keep", "if", "when", "times", "each", "loop"}
}

func TestPrim(t *testing.T) {
	all := primitives(t)
	for name, want := range all {
		if x, ok := effect.Prim(name); x != want || !ok {
			t.Errorf("Prim(%s): %v, %t, want %v", name, x, ok, want)
		}
		if x, e := effect.Of(items(call(name)), nil); x != want || e != api.OK {
			t.Errorf("Of(%s): %v, %d, want %v", name, x, e, want)
		}
	}
	none := []string{"", " ", "foo", "sq", "Dup", "dup ", " dup", "DUP", "t", "f", "[", ":", "1", "--", "!", "\xff", "int", "?", "..", "+-", strings.Repeat("a", 1<<20)}
	for _, name := range slices.Concat(codeWords(), none) {
		if x, ok := effect.Prim(name); x != (api.Effect{}) || ok {
			t.Errorf("Prim(%q): %v, %t", short(name), x, ok)
		}
	}
	for _, r := range `!"#$%&',:;?@^_|~()[]{}0123456789abcdefghijklmnopqrstuvwxyz` {
		if _, ok := effect.Prim(string(r)); ok {
			t.Errorf("Prim(%c): there is one", r)
		}
	}
}

// P9.3

func TestThen(t *testing.T) {
	for in := range api.MaxArgs + 1 {
		for out := range api.MaxArgs + 1 {
			for more := range api.MaxArgs + 1 {
				for left := range api.MaxArgs + 1 {
					then(t, api.Effect{In: in, Out: out}, api.Effect{In: more, Out: left})
				}
			}
		}
	}
}

// then holds Then against values that are taken and left one by one.
func then(t *testing.T, a, b api.Effect) {
	t.Helper()
	want := api.Effect{In: a.In, Out: a.Out}
	for range b.In {
		if want.Out > 0 {
			want.Out--
		} else {
			want.In++
		}
	}
	want.Out += b.Out
	e := api.OK
	if want.In > api.MaxArgs || want.Out > api.MaxArgs {
		want, e = api.Effect{}, api.ErrLarge
	}
	if x, f := effect.Then(a, b); x != want || f != e {
		t.Errorf("Then(%v, %v): %v, %d, want %v, %d", a, b, x, f, want, e)
	}
}

func TestThenRefuses(t *testing.T) {
	for _, wrong := range []int{-1, api.MaxArgs + 1, math.MinInt, math.MaxInt} {
		for _, other := range []int{0, 1, api.MaxArgs, wrong} {
			for _, four := range [][4]int{{wrong, other, 0, 0}, {other, wrong, 0, 0}, {0, 0, wrong, other}, {0, 0, other, wrong}, {api.MaxArgs, wrong, other, api.MaxArgs}, {wrong, other, api.MaxArgs, 1}, {other, 1, wrong, api.MaxArgs}} {
				a, b := api.Effect{In: four[0], Out: four[1]}, api.Effect{In: four[2], Out: four[3]}
				if x, e := effect.Then(a, b); x != (api.Effect{}) || e != api.ErrArg {
					t.Errorf("Then(%v, %v): %v, %d", a, b, x, e)
				}
			}
		}
	}
}

// Then is what Of infers of the items behind one another.
func TestThenIsOf(t *testing.T) {
	for _, a := range words() {
		for _, b := range words() {
			x, e := effect.Then(a.Effect, b.Effect)
			y, f := effect.Of(items(call(a.Name), call(b.Name)), words())
			if x != y || e != f {
				t.Errorf("%s %s: Then %v, %d, Of %v, %d", a.Name, b.Name, x, e, y, f)
			}
		}
	}
}
