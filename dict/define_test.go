package dict_test

import (
	"slices"
	"strings"
	"testing"

	"quire/api"
	"quire/dict"
)

// P14.2: definitions

// three answers a dictionary of vocabularies of which b uses a, c uses b, and d none.
func three(t *testing.T) api.Dict {
	t.Helper()
	return api.Dict{Vocabs: vocabs(uses("a"), uses("b", "a"), uses("c", "b"), uses("d")), Words: words(
		word(t, "a", ": ax ( -- n ) 1 ;"),
		word(t, "b", ": bx ( -- n ) ax ;"),
		word(t, "c", ": cx ( -- n ) bx ;"),
		word(t, "d", ": dx ( -- n ) 4 ;"),
	)}
}

func TestDefine(t *testing.T) {
	for _, c := range []struct{ vocab, source string }{
		{"a", ": m ( -- ) ;"},
		{"b", ": m ( x y -- y x y ) tuck ;"},
		{"a", ": m ( -- n ) ax 1 + ;"},
		{"b", ": m ( -- n ) ax bx + ;"},
		{"c", ": m ( -- n ) bx cx + ;"},
		{"c", ": m ( -- l ) { [ bx ] 1 { [ cx nip ] } } ;"},
		{"d", ": m ( n -- ) dup 0 > [ 1 - m ] [ drop ] if ;"},
		{"d", ": m ( -- q ) [ m ] ;"},
		{"d", `: m ( -- s q l ) "ax" [ "bx" ] { "cx" } ;`},
		{"d", `: a"b ( -- ) "!" drop ;`},
		{"d", ": 1a ( -- ) ;"},
		{"d", ": a ( -- ) ;"},
		{"d", ": zz ( -- ) ;"},
		{"d", ": aa ( -- ) ;"},
		{"d", ": Ax ( -- ) ;"},
		{"d", ": é ( -- ) ;"},
	} {
		got, e := dict.Define(three(t), c.vocab, def(t, c.source))
		want := three(t)
		want.Words = append(want.Words, word(t, c.vocab, c.source))
		slices.SortFunc(want.Words, func(a, b api.Word) int { return strings.Compare(a.Def.Name, b.Def.Name) })
		if e != api.OK {
			t.Errorf("%s in %s: %d", c.source, c.vocab, e)
		}
		gives(t, want, got, e)
	}
}

func TestDefineAnew(t *testing.T) {
	for i, c := range []struct{ vocab, source string }{
		{"a", ": ax ( -- n ) 2 ;"},
		{"b", ": bx ( -- n ) ax ax + ;"},
		{"c", ": cx ( -- n m ) bx bx ;"},
		{"d", ": dx ( n -- n ) dx 1 + ;"},
	} {
		got, e := dict.Define(three(t), c.vocab, def(t, c.source))
		want := three(t)
		want.Words[i] = word(t, c.vocab, c.source)
		gives(t, want, got, e)
	}
}

func TestDefineIsRefused(t *testing.T) {
	for _, c := range []struct {
		vocab, source string
		e             api.Errno
	}{
		// no such vocabulary
		{"x", ": m ( -- ) ;", api.ErrNone},
		{"", ": m ( -- ) ;", api.ErrNone},
		{"ax", ": m ( -- ) ;", api.ErrNone},
		// a primitive's name
		{"a", ": dup ( -- ) ;", api.ErrName},
		{"a", ": . ( -- ) ;", api.ErrName},
		{"a", ": call ( -- ) ;", api.ErrName},
		{"a", ": dup ( n -- n n ) dup ;", api.ErrName},
		// a word of another vocabulary
		{"b", ": ax ( -- n ) 1 ;", api.ErrTwice},
		{"a", ": bx ( -- n ) 1 ;", api.ErrTwice},
		{"d", ": ax ( -- n ) 1 ;", api.ErrTwice},
		// a call that is not seen: none, of a vocabulary that is not used, or that only a used one uses
		{"a", ": m ( -- n ) none ;", api.ErrName},
		{"a", ": m ( -- n ) bx ;", api.ErrName},
		{"d", ": m ( -- n ) ax ;", api.ErrName},
		{"c", ": m ( -- n ) ax ;", api.ErrName},
		{"a", ": m ( -- n ) a ;", api.ErrName},
		{"a", ": ax ( -- n ) bx ;", api.ErrName},
		{"a", ": m ( -- ) [ none ] drop ;", api.ErrName},
		{"a", ": m ( -- ) { 1 [ 2 { [ none ] } ] } drop ;", api.ErrName},
		{"a", ": m ( -- ) { [ bx ] } drop ;", api.ErrName},
		{"a", ": m ( -- n ) 1 + dup [ ] [ none ] if ;", api.ErrName},
		// another effect, or none
		{"a", ": m ( -- n ) ;", api.ErrEffect},
		{"a", ": m ( n -- n ) ;", api.ErrEffect},
		{"a", ": m ( n -- ) ;", api.ErrEffect},
		{"a", ": m ( -- ) drop ;", api.ErrEffect},
		{"a", ": m ( n -- m ) dup ;", api.ErrEffect},
		{"a", ": m ( n m -- l ) + drop ;", api.ErrEffect},
		{"a", ": m ( q -- ) call ;", api.ErrEffect},
		{"a", ": m ( b -- n ) [ 1 ] [ ] if ;", api.ErrEffect},
		{"a", ": m ( n -- ) m m ;", api.ErrEffect},
		// the own effect does not fit, though another word would not either
		{"a", ": ax ( -- n ) ;", api.ErrEffect},
		// another word would not fit
		{"a", ": ax ( -- ) ;", api.ErrEffect},
		{"a", ": ax ( n -- n ) 1 + ;", api.ErrEffect},
		{"b", ": bx ( -- n m ) ax ax ;", api.ErrEffect},
	} {
		got, e := dict.Define(three(t), c.vocab, def(t, c.source))
		if e != c.e {
			t.Errorf("%s in %s: %d, want %d", c.source, c.vocab, e, c.e)
		}
		refuses(t, c.e, got, e)
	}
}

func TestNamesOfWords(t *testing.T) {
	for _, name := range []string{"", " ", "a b", "1", "-5", "٣", "!", "\"a", "a\t", "\ufffd", "\xff", ":", ";", "(", ")", "--", "[", "]", "{", "}", "t", "f", "+", "box?", ">str", strings.Repeat("a", api.MaxName+1)} {
		d, e := dict.Define(three(t), "a", made(name, 0, 0))
		if e != api.ErrName {
			t.Errorf("a word %q: %d", name, e)
		}
		refuses(t, api.ErrName, d, e)
		if dict.Check(api.Dict{Vocabs: vocabs(uses("a")), Words: words(api.Word{Vocab: "a", Def: made(name, 0, 0)})}) != api.ErrForm {
			t.Errorf("a word %q is sound", name)
		}
	}
	for _, name := range []string{"!a", "a\"", "tt", "T", "::", "[]", "--a", "1a", strings.Repeat("日", api.MaxName)} {
		w := api.Word{Vocab: "d", Def: made(name, 0, 0)}
		d, e := dict.Define(api.Dict{Vocabs: vocabs(uses("d"))}, "d", w.Def)
		gives(t, api.Dict{Vocabs: vocabs(uses("d")), Words: words(w)}, d, e)
	}
}

// badBodies answers bodies that are not sound, or in which a box stands.
func badBodies() [][]api.Item {
	round := []api.Item{nil}
	round[0] = push(api.Quot{Items: round})
	deep := list()
	for range api.MaxNest {
		deep = list(deep)
	}
	return [][]api.Item{
		items(nil), items(push(nil)), items(&api.Push{V: num(1)}), items(&api.Call{Name: "dup"}), items((*api.Call)(nil)),
		items(push(&api.Int{N: 1})), items(push((*api.Quot)(nil))), items(push(list(nil))), items(push(quot(nil))),
		items(push(num(api.MaxInt + 1))), items(push(num(api.MinInt - 1))), items(push(str("\xff"))), items(push(str(strings.Repeat("a", api.MaxStr+1)))),
		items(call("")), items(call("1")), items(call("t")), items(call("[")), items(call("a b")), items(call("!")), items(push(quot(call("\xff")))),
		items(push(box(1))), items(push(list(num(1), box(api.MaxBoxes)))), items(push(list(quot(push(list(box(7))))))), items(push(box(0))), items(push(box(-1))),
		slices.Repeat(items(call("dup")), api.MaxSize), slices.Repeat(items(push(num(1))), 5000), items(push(deep)), round,
	}
}

func TestBodiesThatAreNone(t *testing.T) {
	for i, body := range badBodies() {
		for _, vocab := range []string{"a", "x"} {
			for _, name := range []string{"m", "ax", "bx", "dup", ""} {
				d, e := dict.Define(three(t), vocab, made(name, 0, 0, body...))
				if e != api.ErrForm {
					t.Errorf("body %d: %d", i, e)
				}
				refuses(t, api.ErrForm, d, e)
			}
		}
	}
}

func TestEffectsThatAreNone(t *testing.T) {
	least, most := -1<<63, 1<<63-1
	for _, x := range []api.Effect{has(-1, 0), has(0, -1), has(api.MaxArgs+1, 0), has(0, api.MaxArgs+1), has(least, 0), has(0, most), has(most, least), has(17, 17)} {
		for _, vocab := range []string{"a", "x"} {
			for _, name := range []string{"m", "ax", "bx", "dup", ""} {
				d, e := dict.Define(three(t), vocab, made(name, x.In, x.Out, slices.Repeat(items(call("drop")), 17)...))
				refuses(t, api.ErrForm, d, e)
			}
		}
	}
}

// Of several errors the first of the promise counts.
func TestWhichErrorOfDefine(t *testing.T) {
	drops := slices.Repeat(items(call("drop")), api.MaxArgs+1)
	for i, c := range []struct {
		vocab string
		def   api.Def
		e     api.Errno
	}{
		{"x", made("dup", 0, 0, call("none")), api.ErrNone},
		{"x", made("ax", 1, 1), api.ErrNone},
		{"a", made("dup", 0, 0, call("none")), api.ErrName},
		{"a", made("1", 1, 1), api.ErrName},
		{"b", made("ax", 0, 1, call("none")), api.ErrTwice},
		{"b", made("ax", 1, 1), api.ErrTwice},
		{"b", made("ax", 0, 0, drops...), api.ErrTwice},
		{"a", made("m", 0, 1, call("call"), call("none")), api.ErrName},
		{"a", made("m", 1, 1, append(items(call("none")), drops...)...), api.ErrName},
		{"a", made("m", 0, 1, append(slices.Clone(drops), call("none"))...), api.ErrName},
		{"a", made("m", 1, 0, drops...), api.ErrLarge},
		{"a", made("ax", 1, 0, drops...), api.ErrLarge},
		{"a", made("ax", 16, 0, drops[1:]...), api.ErrEffect},
	} {
		d, e := dict.Define(three(t), c.vocab, c.def)
		if e != c.e {
			t.Errorf("case %d: %d, want %d", i, e, c.e)
		}
		refuses(t, c.e, d, e)
	}
}

// What another word's inference would answer is not told: it has not its own effect any more, be it that a quotation does not fit, or that it takes too much.
func TestOthersThatWouldNotFit(t *testing.T) {
	for _, c := range []struct{ first, other, anew string }{
		{": x ( -- n ) 1 ;", ": y ( b -- n ) [ x ] [ 2 ] if ;", ": x ( -- n m ) 1 2 ;"},
		{": x ( -- ) ;", ": y ( -- ) x x ;", ": x ( a b c d e g h i j -- ) drop drop drop drop drop drop drop drop drop ;"},
		{": x ( -- ) ;", ": y ( n -- ) [ x ] times ;", ": x ( -- n ) 1 ;"},
		{": x ( -- ) ;", ": y ( -- ) [ x ] call ;", ": x ( -- n ) 1 ;"},
		{": x ( n -- ) drop ;", ": y ( n -- ) dup [ y ] [ x ] if ;", ": x ( n m -- ) drop drop ;"},
	} {
		d, _ := dict.Define(api.Dict{Vocabs: vocabs(uses("a"))}, "a", def(t, c.first))
		d, e := dict.Define(d, "a", def(t, c.other))
		if e != api.OK {
			t.Errorf("%s: %d", c.other, e)
		}
		got, e := dict.Define(d, "a", def(t, c.anew))
		refuses(t, api.ErrEffect, got, e)
		got, e = dict.Define(d, "a", def(t, c.first))
		gives(t, d, got, e)
	}
}

// A word whose effect does not hang on another's is fine, though that one is called in it.
func TestOthersThatStillFit(t *testing.T) {
	for _, c := range []struct{ first, other, anew string }{
		{": x ( -- n ) 1 ;", ": y ( -- ) [ x ] drop ;", ": x ( n -- n m ) dup ;"},
		{": x ( -- n ) 1 ;", ": y ( -- q ) [ x ] ;", ": x ( -- ) ;"},
		{": x ( -- n ) 1 ;", ": y ( -- l ) { [ x ] [ x x ] } ;", ": x ( n -- ) drop ;"},
		{": x ( n -- n ) neg ;", ": y ( n b -- ) [ drop ] [ x drop ] if ;", ": x ( n -- n ) 1 + ;"},
		{": x ( -- n ) 1 ;", ": y ( n b -- n ) [ x drop ] [ 1 + ] if ;", ": x ( n -- n m ) 1 + dup ;"},
	} {
		d, _ := dict.Define(api.Dict{Vocabs: vocabs(uses("a"), uses("b", "a"))}, "a", def(t, c.first))
		want, e := dict.Define(d, "b", def(t, c.other))
		if e != api.OK {
			t.Errorf("%s: %d", c.other, e)
			continue
		}
		got, e := dict.Define(want, "a", def(t, c.anew))
		want.Words[0] = word(t, "a", c.anew)
		gives(t, want, got, e)
	}
}

// A definition may call itself, and is known by its own effect then.
func TestWordsThatCallThemselves(t *testing.T) {
	empty := api.Dict{Vocabs: vocabs(uses("a"))}
	for _, c := range []struct {
		source string
		e      api.Errno
	}{
		{": m ( -- ) m ;", api.OK},
		{": m ( n -- n ) m m m ;", api.OK},
		{": m ( n n -- n ) m ;", api.OK},
		{": m ( n -- ) m m ;", api.ErrEffect},
		{": m ( -- n ) m m ;", api.ErrEffect},
		{": m ( -- n ) m m drop ;", api.OK},
	} {
		d, e := dict.Define(empty, "a", def(t, c.source))
		if e != c.e {
			t.Errorf("%s: %d, want %d", c.source, e, c.e)
		}
		if e == api.OK {
			gives(t, api.Dict{Vocabs: empty.Vocabs, Words: words(word(t, "a", c.source))}, d, e)
		}
	}
	// Its old effect does not count any more.
	d, _ := dict.Define(empty, "a", def(t, ": m ( -- ) m ;"))
	d, e := dict.Define(d, "a", def(t, ": m ( n -- n ) m ;"))
	gives(t, api.Dict{Vocabs: empty.Vocabs, Words: words(word(t, "a", ": m ( n -- n ) m ;"))}, d, e)
}

// Words that call one another come one by one: the first calls itself at first.
func TestWordsThatCallOneAnother(t *testing.T) {
	d := api.Dict{Vocabs: vocabs(uses("a"))}
	for _, source := range []string{": ping ( n -- n ) ;", ": pong ( n -- n ) ;"} {
		got, e := dict.Define(d, "a", def(t, source))
		refuses(t, api.ErrEffect, got, e)
	}
	for _, source := range []string{": ping ( n -- n ) 1 + ;", ": pong ( n -- n ) ping ;", ": ping ( n -- n ) pong ;"} {
		var e api.Errno
		if d, e = dict.Define(d, "a", def(t, source)); e != api.OK {
			t.Fatalf("%s: %d", source, e)
		}
	}
	for _, name := range []string{"ping", "pong"} {
		if names, e := dict.Hang(d, name); !slices.Equal(names, []string{"ping", "pong"}) || e != api.OK {
			t.Errorf("Hang %s: %v, %d", name, names, e)
		}
		got, e := dict.Forget(d, name)
		refuses(t, api.ErrUsed, got, e)
	}
}
