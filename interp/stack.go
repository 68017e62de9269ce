package interp

import (
	"slices"

	"quire/api"
	"quire/prim"
	"quire/value"
)

func (r *run) push(v api.Value) api.Errno {
	if len(r.state.Stack) >= api.MaxStack {
		return api.ErrLarge
	}
	r.state.Stack = append(r.state.Stack, v)
	return api.OK
}

// take pops values of the kinds that are wanted, the top one last. They stand in a list of their own, as what is pushed next is laid over them.
func (r *run) take(wants ...kind) ([]api.Value, api.Errno) {
	below := len(r.state.Stack) - len(wants)
	if below < 0 {
		return nil, api.ErrUnder
	}
	args := slices.Clone(r.state.Stack[below:])
	for i, v := range args {
		if !wants[i].fits(v) {
			return nil, api.ErrKind
		}
	}
	r.state.Stack = r.state.Stack[:below]
	return args, api.OK
}

// tabled carries out a primitive of the table. It is handed but the values that it takes, as it copies all that it is handed.
func (r *run) tabled(name string, in int) api.Errno {
	below := max(0, len(r.state.Stack)-in)
	left, e := prim.Do(name, r.state.Stack[below:])
	if e != api.OK {
		return e
	}
	r.state.Stack = r.state.Stack[:below]
	for _, v := range left {
		if e := r.push(v); e != api.OK {
			return e
		}
	}
	return api.OK
}

func (r *run) box(v api.Value) api.Errno {
	n := r.state.Next
	if n >= api.MaxBoxes {
		return api.ErrLarge
	}
	r.state.Boxes = append(r.state.Boxes, api.Content{N: n, V: v})
	r.state.Next++
	return r.push(api.Box{N: n})
}

func (r *run) get(n int) api.Errno {
	return r.push(r.content(n).V)
}

func (r *run) put(v api.Value, n int) api.Errno {
	r.content(n).V = v
	return api.OK
}

// content answers the box with a number: one that stands in a value is always there.
func (r *run) content(n int) *api.Content {
	at, _ := place(r.state.Boxes, n)
	return &r.state.Boxes[at]
}

// tell tells the text of v, and a blank.
func (r *run) tell(v api.Value) api.Errno {
	text, _ := value.Text(v)
	if len(r.told)+len(text)+1 > api.MaxOut {
		return api.ErrLarge
	}
	r.told = append(append(r.told, text...), ' ')
	return api.OK
}
