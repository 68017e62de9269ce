package effect

import (
	"quire/api"
)

// inference goes through items. Its methods give up by a panic with a fault, so that none of them has to hand one on.
type inference struct {
	words map[string]api.Effect // those that are known
	left  int                   // items that may still be gone through, within own effects, too
}

// fault is why an inference gave up.
type fault struct{ e api.Errno }

// caught answers what an inference comes to, or why it gave up.
func caught(infer func() api.Effect) (x api.Effect, e api.Errno) {
	defer func() {
		what := recover()
		if what == nil {
			return
		}
		f, own := what.(fault)
		if !own {
			panic(what)
		}
		x, e = api.Effect{}, f.e
	}()
	return infer(), api.OK
}

// whole answers the effect of all items. That of a quotation within them is not bounded.
func (f *inference) whole(items []api.Item) api.Effect {
	x := f.own(items)
	if !bounded(x) {
		panic(fault{api.ErrLarge})
	}
	return x
}

// own answers the effect of items by themselves.
func (f *inference) own(items []api.Item) api.Effect {
	var s stack
	f.through(items, &s)
	return api.Effect{In: s.taken, Out: len(s.list)}
}

// through goes through items with what is on the stack.
func (f *inference) through(items []api.Item, s *stack) {
	for _, item := range items {
		f.item(item, s)
	}
}

// item goes through one item. A name that is none comes ahead of one item too many, and that ahead of an effect that does not fit, as R2 has it.
func (f *inference) item(item api.Item, s *stack) {
	switch x := item.(type) {
	case api.Push:
		f.count()
		s.push(entryOf(x.V))
	case api.Call:
		carryOut := f.word(x.Name)
		f.count()
		carryOut(s)
	}
}

func (f *inference) count() {
	if f.left == 0 {
		panic(fault{api.ErrLarge})
	}
	f.left--
}

// word answers what the word with a name does to the stack.
func (f *inference) word(name string) func(*stack) {
	switch name {
	case "call":
		return f.call
	case "dip":
		return f.dip
	case "keep":
		return f.keep
	case "if":
		return f.choose
	case "when", "times":
		return f.repeat
	case "loop":
		return f.loop
	case "each":
		return f.each
	}
	x := f.plain(name)
	if places, ok := moved(name); ok {
		return func(s *stack) { s.move(x.In, places) }
	}
	return func(s *stack) { s.apply(x) }
}

// plain answers the effect of a word that has one whatever it is handed.
func (f *inference) plain(name string) api.Effect {
	if x, ok := Prim(name); ok {
		return x
	}
	x, ok := f.words[name]
	if !ok {
		panic(fault{api.ErrName})
	}
	return x
}

func (f *inference) call(s *stack) {
	f.through(s.quotation(), s)
}

func (f *inference) dip(s *stack) {
	items := s.quotation()
	x := s.pop()
	f.through(items, s)
	s.push(x)
}

func (f *inference) keep(s *stack) {
	items := s.quotation()
	x := s.pop()
	s.push(x)
	f.through(items, s)
	s.push(x)
}

func (f *inference) choose(s *stack) {
	no := s.quotation()
	yes := s.quotation()
	s.pop()
	x, y := f.own(yes), f.own(no)
	mustFit(x.Out-x.In == y.Out-y.In)
	if x.In < y.In {
		x = y
	}
	s.apply(x)
}

// repeat is when and times: however often the quotation is carried out, as many values have to be there behind it.
func (f *inference) repeat(s *stack) {
	items := s.quotation()
	s.pop()
	x := f.own(items)
	mustFit(x.Out == x.In)
	s.apply(x)
}

func (f *inference) loop(s *stack) {
	x := f.own(s.quotation())
	mustFit(x.Out == x.In+1)
	s.apply(api.Effect{In: x.In, Out: x.In})
}

func (f *inference) each(s *stack) {
	items := s.quotation()
	s.pop()
	x := f.own(items)
	mustFit(x.Out == x.In-1)
	s.apply(api.Effect{In: x.Out, Out: x.Out})
}

// mustFit gives up, unless an effect fits.
func mustFit(fits bool) {
	if !fits {
		panic(fault{api.ErrEffect})
	}
}
