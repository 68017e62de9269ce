package dict_test

import (
	"fmt"
	"math/rand"
	"slices"
	"testing"

	"quire/api"
	"quire/dict"
)

// version answers a dictionary that is told apart by a number.
func version(n int) api.Dict {
	return api.Dict{Vocabs: vocabs(uses("a")), Words: words(api.Word{Vocab: "a", Def: made("x", 0, 1, push(num(int64(n))))})}
}

// number answers the number of such a dictionary.
func number(d api.Dict) int {
	if len(d.Words) != 1 {
		return -1
	}
	return int(d.Words[0].Def.Body[0].(api.Push).V.(api.Int).N)
}

func versions(numbers ...int) (all []api.Dict) {
	for _, n := range numbers {
		all = append(all, version(n))
	}
	return all
}

func numbers(all []api.Dict) (list []int) {
	for _, d := range all {
		list = append(list, number(d))
	}
	return list
}

// open answers a book, which fails the test if it is none.
func open(t *testing.T, now int, past, future []int, bound int) *dict.Book {
	t.Helper()
	b, e := dict.Open(version(now), versions(past...), versions(future...), bound)
	if e != api.OK || b == nil {
		t.Fatalf("Open: %d", e)
	}
	return b
}

// isAt fails the test, unless a book is of those dictionaries.
func isAt(t *testing.T, b *dict.Book, now int, past, future []int) {
	t.Helper()
	before, behind := b.Lists()
	if number(b.Dict()) != now || !slices.Equal(numbers(before), past) || !slices.Equal(numbers(behind), future) {
		t.Errorf("the book is at %d of %v and %v, want %d of %v and %v", number(b.Dict()), numbers(before), numbers(behind), now, past, future)
	}
}

func answers(t *testing.T, got, want api.Errno) {
	t.Helper()
	if got != want {
		t.Errorf("error %d, want %d", got, want)
	}
}

// P14.4: books

func TestOpen(t *testing.T) {
	isAt(t, open(t, 7, nil, nil, 0), 7, nil, nil)
	isAt(t, open(t, 7, []int{1, 2}, []int{8}, 2), 7, []int{1, 2}, []int{8})
	b, e := dict.Open(squares(t), dicts(dict.New(), some()), dicts(family(t)), 2)
	answers(t, e, api.OK)
	same(t, b.Dict(), squares(t))
	past, future := b.Lists()
	if tellAll(past) != tellAll(dicts(dict.New(), some())) || tellAll(future) != tellAll(dicts(family(t))) {
		t.Errorf("Lists:\n%s\n%s", tellAll(past), tellAll(future))
	}
}

func TestSetUndoRedo(t *testing.T) {
	b := open(t, 0, nil, nil, 2)
	answers(t, b.Undo(), api.ErrNone)
	answers(t, b.Redo(), api.ErrNone)
	isAt(t, b, 0, nil, nil)
	answers(t, b.Set(version(1)), api.OK)
	isAt(t, b, 1, []int{0}, nil)
	answers(t, b.Set(version(2)), api.OK)
	isAt(t, b, 2, []int{0, 1}, nil)
	answers(t, b.Set(version(3)), api.OK)
	isAt(t, b, 3, []int{1, 2}, nil)
	answers(t, b.Undo(), api.OK)
	isAt(t, b, 2, []int{1}, []int{3})
	answers(t, b.Undo(), api.OK)
	isAt(t, b, 1, nil, []int{3, 2})
	answers(t, b.Undo(), api.ErrNone)
	isAt(t, b, 1, nil, []int{3, 2})
	answers(t, b.Redo(), api.OK)
	isAt(t, b, 2, []int{1}, []int{3})
	answers(t, b.Set(version(4)), api.OK)
	isAt(t, b, 4, []int{1, 2}, nil)
	answers(t, b.Redo(), api.ErrNone)
	isAt(t, b, 4, []int{1, 2}, nil)
	answers(t, b.Set(version(4)), api.OK) // the same again is an edit, too
	isAt(t, b, 4, []int{2, 4}, nil)
}

func TestNoHistory(t *testing.T) {
	b := open(t, 0, nil, nil, 0)
	for n := 1; n < 4; n++ {
		answers(t, b.Set(version(n)), api.OK)
		isAt(t, b, n, nil, nil)
		answers(t, b.Undo(), api.ErrNone)
		answers(t, b.Redo(), api.ErrNone)
		isAt(t, b, n, nil, nil)
	}
}

// A book that is opened goes on as the one whose lists it was made of.
func TestOpenGoesOn(t *testing.T) {
	b := open(t, 5, []int{1, 2}, []int{8, 7}, 2)
	answers(t, b.Undo(), api.OK)
	isAt(t, b, 2, []int{1}, []int{8, 7, 5})
	answers(t, b.Redo(), api.OK)
	answers(t, b.Redo(), api.OK)
	isAt(t, b, 7, []int{1, 2, 5}, []int{8})
	answers(t, b.Redo(), api.OK)
	isAt(t, b, 8, []int{1, 2, 5, 7}, nil)
	answers(t, b.Set(version(9)), api.OK) // less the first alone
	isAt(t, b, 9, []int{2, 5, 7, 8}, nil)
}

// P7: as many undos as edits bring the dictionary back, and redos on again.
func TestUndoBringsBack(t *testing.T) {
	for _, bound := range []int{0, 1, 2, 5, api.MaxHistory} {
		for n := range bound + 1 {
			b := open(t, 100, nil, nil, bound)
			for i := range n {
				answers(t, b.Set(version(i)), api.OK)
			}
			for range n {
				answers(t, b.Undo(), api.OK)
			}
			answers(t, b.Undo(), api.ErrNone)
			if number(b.Dict()) != 100 {
				t.Errorf("bound %d: %d edits and undos leave %d", bound, n, number(b.Dict()))
			}
			for i := range n {
				answers(t, b.Redo(), api.OK)
				if number(b.Dict()) != i {
					t.Errorf("bound %d: %d redos leave %d", bound, i+1, number(b.Dict()))
				}
			}
			answers(t, b.Redo(), api.ErrNone)
		}
	}
}

// Beyond the bound the first edits can't be undone any more.
func TestUndoBeyondTheBound(t *testing.T) {
	for _, bound := range []int{1, 2, 5, api.MaxHistory} {
		b := open(t, 100, nil, nil, bound)
		for i := range 40 {
			answers(t, b.Set(version(i)), api.OK)
		}
		for range bound {
			answers(t, b.Undo(), api.OK)
		}
		answers(t, b.Undo(), api.ErrNone)
		if number(b.Dict()) != 39-bound {
			t.Errorf("bound %d: %d", bound, number(b.Dict()))
		}
	}
}

// P14.5: no book

func TestNilBook(t *testing.T) {
	var b *dict.Book
	if d := b.Dict(); len(d.Vocabs) != 0 || len(d.Words) != 0 {
		t.Errorf("Dict: %s", tellDict(d))
	}
	if past, future := b.Lists(); len(past) != 0 || len(future) != 0 {
		t.Errorf("Lists: %v, %v", past, future)
	}
	answers(t, b.Set(some()), api.ErrArg)
	answers(t, b.Set(api.Dict{Vocabs: vocabs(uses("1"))}), api.ErrArg)
	answers(t, b.Undo(), api.ErrArg)
	answers(t, b.Redo(), api.ErrArg)
}

// A book that nobody opened has no dictionary, and keeps none.
func TestZeroBook(t *testing.T) {
	var b dict.Book
	same(t, b.Dict(), dict.New())
	answers(t, b.Undo(), api.ErrNone)
	answers(t, b.Redo(), api.ErrNone)
	answers(t, b.Set(version(1)), api.OK)
	isAt(t, &b, 1, nil, nil)
}

// R5: books are each their own.
func TestBooksAreApart(t *testing.T) {
	a, b := open(t, 0, nil, nil, 3), open(t, 10, []int{11}, nil, 3)
	answers(t, a.Set(version(1)), api.OK)
	isAt(t, b, 10, []int{11}, nil)
	answers(t, b.Undo(), api.OK)
	isAt(t, a, 1, []int{0}, nil)
	isAt(t, b, 11, nil, []int{10})
}

// plain is a book of numbers: all lists are made anew by each edit.
type plain struct {
	now          int
	past, future []int
	bound        int
}

func (p *plain) set(n int) api.Errno {
	p.past = append(slices.Clone(p.past), p.now)
	if len(p.past) > p.bound {
		p.past = p.past[1:]
	}
	p.now, p.future = n, nil
	return api.OK
}

func (p *plain) undo() api.Errno {
	if len(p.past) == 0 {
		return api.ErrNone
	}
	p.future = append(slices.Clone(p.future), p.now)
	p.now = p.past[len(p.past)-1]
	p.past = slices.Clone(p.past[:len(p.past)-1])
	return api.OK
}

func (p *plain) redo() api.Errno {
	p.past, p.future = p.future, p.past
	e := p.undo()
	p.past, p.future = p.future, p.past
	return e
}

func TestBooksByChance(t *testing.T) {
	r := rand.New(rand.NewSource(14))
	seen := map[string]int{}
	for range 300 {
		bound := []int{0, 1, 2, 3, 7, api.MaxHistory}[r.Intn(6)]
		p := &plain{now: r.Intn(50), past: r.Perm(40)[:r.Intn(bound+1)], future: r.Perm(40)[:r.Intn(bound+1)], bound: bound}
		b := open(t, p.now, p.past, p.future, bound)
		for range 40 {
			var got, want api.Errno
			what := r.Intn(4)
			switch what {
			case 0:
				n := r.Intn(1000)
				got, want = b.Set(version(n)), p.set(n)
			case 1, 2:
				got, want = b.Undo(), p.undo()
			case 3:
				got, want = b.Redo(), p.redo()
			}
			seen[fmt.Sprint(what, got)]++
			if got != want {
				t.Fatalf("bound %d, call %d: %d, want %d", bound, what, got, want)
			}
			isAt(t, b, p.now, p.past, p.future)
		}
	}
	for _, what := range []string{"0 0", "1 0", "1 6", "2 0", "2 6", "3 0", "3 6"} {
		if seen[what] < 50 {
			t.Errorf("%s came %d times", what, seen[what])
		}
	}
}
