package store

import (
	"quire/api"
	"quire/cell"
	"quire/heap"
)

// The kinds of objects.
const (
	kindStr = iota
	kindList
	kindQuot
	kindCall
	kindBox
)

// The fields of a box.
const (
	boxNumber = iota
	boxHeld
	boxFields
)

// wordBytes is how many bytes of a text stand in a word.
const wordBytes = 8

// layer lays sound values anew, each as a new root, on top: an Int or Bool as its cell, all else as an object. Beside an error the roots of what was begun are left on top.
type layer struct {
	heap *heap.Heap
	box  func(n int) api.Errno // makes a new root that names the box with this number
}

func (l layer) values(list []api.Value) api.Errno {
	for _, v := range list {
		if e := l.value(v); e != api.OK {
			return e
		}
	}
	return api.OK
}

func (l layer) value(v api.Value) api.Errno {
	switch x := v.(type) {
	case api.Int:
		c, _ := cell.Fix(x.N)
		return l.heap.Num(c)
	case api.Bool:
		return l.heap.Num(cell.Flag(x.B))
	case api.Str:
		return l.text(kindStr, x.S)
	case api.List:
		return l.object(kindList, len(x.Items), false, func(f int) api.Errno { return l.value(x.Items[f]) })
	case api.Quot:
		return l.object(kindQuot, len(x.Items), false, func(f int) api.Errno { return l.item(x.Items[f]) })
	case api.Box:
		return l.box(x.N)
	}
	return api.ErrForm
}

// item lays a Push as its value: no value is of a Call's kind, so they are told apart.
func (l layer) item(item api.Item) api.Errno {
	switch x := item.(type) {
	case api.Push:
		return l.value(x.V)
	case api.Call:
		return l.text(kindCall, x.Name)
	}
	return api.ErrForm
}

// text lays the length of a text, and its bytes.
func (l layer) text(kind int, s string) api.Errno {
	return l.object(kind, textFields(s), true, func(f int) api.Errno {
		if f == 0 {
			return l.heap.Num(uint64(len(s)))
		}
		return l.heap.Num(packed(s[(f-1)*wordBytes:]))
	})
}

// newBox lays a box, with what held makes a root of.
func (l layer) newBox(n int, held func() api.Errno) api.Errno {
	return l.object(kindBox, boxFields, false, func(f int) api.Errno {
		if f == boxNumber {
			return l.heap.Num(uint64(n))
		}
		return held()
	})
}

// object lays an object whose fields are what part makes roots of, one by one.
func (l layer) object(kind, fields int, raw bool, part func(f int) api.Errno) api.Errno {
	if e := l.heap.Alloc(kind, fields, raw); e != api.OK {
		return e
	}
	at := l.heap.Roots() - 1
	for f := range fields {
		if e := part(f); e != api.OK {
			return e
		}
		l.heap.Set(at, f, at+1)
		l.heap.Slide(1, 0)
	}
	return api.OK
}

// textFields answers how many fields a text takes.
func textFields(s string) int {
	return 1 + (len(s)+wordBytes-1)/wordBytes
}

// packed answers the first bytes of s as a word, the first of them lowest.
func packed(s string) uint64 {
	var w uint64
	for i := range min(len(s), wordBytes) {
		w |= uint64(s[i]) << (8 * i)
	}
	return w
}
