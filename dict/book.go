package dict

import (
	"slices"

	"quire/api"
)

// Book is a dictionary whose edits can be undone.
type Book struct{ keeper }

// Open answers a book of a dictionary, of those ahead of its edits, and of those that undos undid, with the number of edits that it keeps.
func Open(d api.Dict, past, future []api.Dict, bound int) (*Book, api.Errno) {
	for _, other := range slices.Concat([]api.Dict{d}, past, future) {
		if e := Check(other); e != api.OK {
			return nil, e
		}
	}
	if bound < 0 || bound > api.MaxHistory || len(past) > bound || len(future) > bound {
		return nil, api.ErrArg
	}
	now, _ := copied(d)
	return &Book{keeper{now: now, past: copies(past), future: copies(future), bound: bound}}, api.OK
}

// Dict answers the dictionary.
func (b *Book) Dict() api.Dict {
	if b == nil {
		return api.Dict{}
	}
	d, _ := copied(b.now)
	return d
}

// Set makes d the dictionary, by an edit.
func (b *Book) Set(d api.Dict) api.Errno {
	if b == nil {
		return api.ErrArg
	}
	c, e := copyOf(d)
	if e != api.OK {
		return e
	}
	b.edit(c)
	return api.OK
}

// Undo makes the dictionary what it was ahead of the last edit.
func (b *Book) Undo() api.Errno {
	if b == nil {
		return api.ErrArg
	}
	return b.turn(&b.past, &b.future)
}

// Redo makes the dictionary what it was ahead of the last undo.
func (b *Book) Redo() api.Errno {
	if b == nil {
		return api.ErrArg
	}
	return b.turn(&b.future, &b.past)
}

// Lists answers the dictionaries that undos lead to, and those that redos lead to; the last of each is the next.
func (b *Book) Lists() (past, future []api.Dict) {
	if b == nil {
		return nil, nil
	}
	return copies(b.past), copies(b.future)
}
