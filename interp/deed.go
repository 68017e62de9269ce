package interp

import (
	"quire/api"
	"quire/prim"
)

// doing answers what an item does.
func (r *run) doing(item api.Item) deed {
	if call, ok := item.(api.Call); ok {
		return r.calling(call.Name)
	}
	return r.pushing(item.(api.Push).V)
}

func (r *run) pushing(v api.Value) deed {
	return func() api.Errno { return r.push(v) }
}

func (r *run) entering(items []api.Item) deed {
	return func() api.Errno { return r.enter(items) }
}

func (r *run) laying(f frame) deed {
	return func() api.Errno { return r.lay(f) }
}

// calling answers what the word with a name does. Primitives come first, so that a word with the name of one does not count.
func (r *run) calling(name string) deed {
	if wants, do := r.primitive(name); do != nil {
		return r.taking(wants, do)
	}
	if x, ok := prim.Effect(name); ok {
		return func() api.Errno { return r.tabled(name, x.In) }
	}
	if body, ok := r.words[name]; ok {
		return r.entering(body)
	}
	return func() api.Errno { return api.ErrName }
}

// taking answers what a word does that takes values of some kinds.
func (r *run) taking(wants []kind, do func([]api.Value) api.Errno) deed {
	return func() api.Errno {
		args, e := r.take(wants...)
		if e != api.OK {
			return e
		}
		return do(args)
	}
}

// primitive answers for one that the table leaves out the kinds that it wants, the top one last, and what it does with such values; nil, if there is none.
func (r *run) primitive(name string) ([]kind, func([]api.Value) api.Errno) {
	switch name {
	case "call":
		return []kind{quots}, func(a []api.Value) api.Errno { return r.enter(quotation(a[0])) }
	case "dip":
		return []kind{anything, quots}, func(a []api.Value) api.Errno { return r.under(a[0], quotation(a[1])) }
	case "keep":
		return []kind{anything, quots}, func(a []api.Value) api.Errno { return r.keep(a[0], quotation(a[1])) }
	case "if":
		return []kind{flags, quots, quots}, func(a []api.Value) api.Errno { return r.choose(flag(a[0]), a[1], a[2]) }
	case "when":
		return []kind{flags, quots}, func(a []api.Value) api.Errno { return r.when(flag(a[0]), quotation(a[1])) }
	case "times":
		return []kind{numbers, quots}, func(a []api.Value) api.Errno { return r.lay(r.times(number(a[0]), quotation(a[1]))) }
	case "each":
		return []kind{lists, quots}, func(a []api.Value) api.Errno { return r.lay(r.each(list(a[0]), quotation(a[1]))) }
	case "loop":
		return []kind{quots}, func(a []api.Value) api.Errno { return r.lay(r.loop(quotation(a[0]))) }
	case "box":
		return []kind{anything}, func(a []api.Value) api.Errno { return r.box(a[0]) }
	case "get":
		return []kind{boxes}, func(a []api.Value) api.Errno { return r.get(boxNumber(a[0])) }
	case "put":
		return []kind{anything, boxes}, func(a []api.Value) api.Errno { return r.put(a[0], boxNumber(a[1])) }
	case ".":
		return []kind{anything}, func(a []api.Value) api.Errno { return r.tell(a[0]) }
	}
	return nil, nil
}

// under carries out items, and brings v back behind them.
func (r *run) under(v api.Value, items []api.Item) api.Errno {
	return inTurn(r.laying(r.back(v)), r.entering(items))
}

func (r *run) keep(v api.Value, items []api.Item) api.Errno {
	if e := r.push(v); e != api.OK {
		return e
	}
	return r.under(v, items)
}

func (r *run) choose(b bool, yes, no api.Value) api.Errno {
	if b {
		return r.enter(quotation(yes))
	}
	return r.enter(quotation(no))
}

func (r *run) when(b bool, items []api.Item) api.Errno {
	if !b {
		return api.OK
	}
	return r.enter(items)
}
