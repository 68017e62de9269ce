package parse

import (
	"quire/api"
)

// reader goes through the tokens of a source. Its methods give up by a panic with a fault, so that none of them has to hand one on.
type reader struct {
	tokens []api.Token // those that are left
	end    int         // the length of the source
	open   int         // brackets that are open
	size   int         // tokens that count, from the outermost bracket on
}

// fault is why a reader gave up, and where.
type fault struct {
	at int
	e  api.Errno
}

// fault answers one at the next token, or at the end of the source.
func (r *reader) fault(e api.Errno) fault {
	if len(r.tokens) == 0 {
		return fault{r.end, e}
	}
	return fault{r.tokens[0].At, e}
}

// next answers the next token without going behind it.
func (r *reader) next() api.Token {
	r.must(len(r.tokens) > 0)
	return r.tokens[0]
}

// must gives up, unless the grammar can go on at the next token.
func (r *reader) must(goOn bool) {
	if !goOn {
		panic(r.fault(api.ErrText))
	}
}

// take goes behind the next token.
func (r *reader) take() api.Token {
	token := r.next()
	r.tokens = r.tokens[1:]
	return token
}

// count goes behind the next token, which is one of those that count.
func (r *reader) count() api.Token {
	if r.size == api.MaxSize {
		panic(r.fault(api.ErrLarge))
	}
	r.size++
	return r.take()
}

// enter goes behind the next token, which opens a bracket.
func (r *reader) enter() {
	if r.open == api.MaxNest {
		panic(r.fault(api.ErrLarge))
	}
	r.open++
	r.count()
}

// upTo answers the parts that stand ahead of the word by which the last bracket is closed, and goes behind it.
func upTo[T any](r *reader, closing string, part func(*reader) T) []T {
	var list []T
	for !r.is(closing) {
		list = append(list, part(r))
	}
	r.take()
	r.open--
	return list
}

// is answers whether the next token is the word. A string that holds the same text is none.
func (r *reader) is(word string) bool {
	token := r.next()
	return token.Kind == api.TWord && token.Text == word
}

// named answers whether the next token is a name.
func (r *reader) named() bool {
	token := r.next()
	return token.Kind == api.TWord && !reserved(token.Text)
}

func (r *reader) form() api.Form {
	if r.is(define) {
		return api.Form{Define: true, Def: r.definition()}
	}
	return api.Form{Item: r.item()}
}

func (r *reader) definition() api.Def {
	r.enter()
	r.must(r.named())
	name := r.take().Text
	r.must(r.is(openEffect))
	r.take()
	in := r.side(middle)
	out := r.side(closeEffect)
	body := upTo(r, endDefine, (*reader).item)
	return api.Def{Name: name, Effect: api.Effect{In: in, Out: out}, Body: body}
}

// side answers how many names an effect has on one side, and goes behind the word that ends it.
func (r *reader) side(end string) int {
	names := 0
	for ; !r.is(end); names++ {
		r.must(r.named())
		if names == api.MaxArgs {
			panic(r.fault(api.ErrLarge))
		}
		r.take()
	}
	r.take()
	return names
}

func (r *reader) item() api.Item {
	if r.named() {
		return api.Call{Name: r.count().Text}
	}
	return api.Push{V: r.literal()}
}

func (r *reader) literal() api.Value {
	switch r.next().Kind {
	case api.TNum:
		return api.Int{N: r.count().N}
	case api.TStr:
		return api.Str{S: r.count().Text}
	}
	switch r.next().Text {
	case yes, no:
		return api.Bool{B: r.count().Text == yes}
	case openQuot:
		r.enter()
		return api.Quot{Items: upTo(r, closeQuot, (*reader).item)}
	case openList:
		r.enter()
		return api.List{Items: upTo(r, closeList, (*reader).literal)}
	}
	panic(r.fault(api.ErrText))
}
