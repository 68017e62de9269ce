package store

import (
	"quire/api"
	"quire/cell"
	"quire/heap"
)

// reader answers what layer laid. A field is read as a root, which goes again; so behind a reading the roots are as before.
type reader struct{ heap *heap.Heap }

// value answers the value that root i is.
func (r reader) value(i int) api.Value {
	kind, fields, _, e := r.heap.Info(i)
	if e != api.OK {
		return ofCell(r.word(i))
	}
	switch kind {
	case kindStr:
		return api.Str{S: r.text(i, fields)}
	case kindList:
		return api.List{Items: each(r, i, fields, r.value)}
	case kindQuot:
		return api.Quot{Items: each(r, i, fields, r.item)}
	}
	n, _ := r.box(i)
	return api.Box{N: n}
}

// item answers the item that root i is.
func (r reader) item(i int) api.Item {
	if kind, fields, _, e := r.heap.Info(i); e == api.OK && kind == kindCall {
		return api.Call{Name: r.text(i, fields)}
	}
	return api.Push{V: r.value(i)}
}

// box answers the number of the box that root i names, if it is one.
func (r reader) box(i int) (int, bool) {
	if kind, _, _, e := r.heap.Info(i); e != api.OK || kind != kindBox {
		return 0, false
	}
	return int(field(r, i, boxNumber, r.word)), true
}

// text answers the text of the object that root i names.
func (r reader) text(i, fields int) string {
	words := each(r, i, fields, r.word)
	var b []byte
	for _, w := range words[1:] {
		for at := range wordBytes {
			b = append(b, byte(w>>(8*at)))
		}
	}
	return string(b[:words[0]])
}

// word answers the number that root i is.
func (r reader) word(i int) uint64 {
	w, _ := r.heap.Word(i)
	return w
}

// each answers what the fields are of the object that root i names.
func each[T any](r reader, i, fields int, read func(root int) T) []T {
	list := make([]T, fields)
	for f := range list {
		list[f] = field(r, i, f, read)
	}
	return list
}

// field answers what field f is of the object that root i names.
func field[T any](r reader, i, f int, read func(root int) T) T {
	r.heap.Get(i, f)
	x := read(r.heap.Roots() - 1)
	r.heap.Slide(1, 0)
	return x
}

func ofCell(c uint64) api.Value {
	if b, e := cell.Bool(c); e == api.OK {
		return api.Bool{B: b}
	}
	n, _ := cell.Num(c)
	return api.Int{N: n}
}
