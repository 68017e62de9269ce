package link

import (
	"quire/api"
	"quire/prim"
)

// callsOf answers, by name, the operations that carry out the primitives and the words of codes.
func callsOf(codes []api.Code) map[string]api.Op {
	calls := map[string]api.Op{}
	for i, name := range prim.Names() {
		calls[name] = api.Op{Kind: api.OPrim, N: i}
	}
	for i, code := range codes {
		calls[code.Name] = api.Op{Kind: api.OCall, N: i}
	}
	return calls
}

// linked answers the operations of sound items, whose values they hold from then on, or ErrName at a call of what is not known.
func linked(items []api.Item, calls map[string]api.Op) ([]api.Op, api.Errno) {
	ops := make([]api.Op, len(items))
	for i, item := range items {
		switch x := item.(type) {
		case api.Push:
			ops[i] = api.Op{Kind: api.OPush, V: x.V}
		case api.Call:
			op, known := calls[x.Name]
			if !known {
				return nil, api.ErrName
			}
			ops[i] = op
		}
	}
	return ops, api.OK
}

// names is what the numbers of operations stand for.
type names struct{ prims, words []string }

func namesOf(codes []api.Code) names {
	n := names{prims: prim.Names()}
	for _, code := range codes {
		n.words = append(n.words, code.Name)
	}
	return n
}

// items answers the items of operations, with nil, which no sound quotation has, for each that is none.
func (n names) items(ops []api.Op) []api.Item {
	items := make([]api.Item, len(ops))
	for i, op := range ops {
		items[i] = n.item(op)
	}
	return items
}

func (n names) item(op api.Op) api.Item {
	switch {
	case op.Kind == api.OPush && op.N == 0:
		return api.Push{V: op.V}
	case op.Kind == api.OPrim && op.V == nil:
		return callOf(n.prims, op.N)
	case op.Kind == api.OCall && op.V == nil:
		return callOf(n.words, op.N)
	}
	return nil
}

// callOf answers a call of the name at a place, or nil, if none stands there.
func callOf(all []string, at int) api.Item {
	if at < 0 || at >= len(all) {
		return nil
	}
	return api.Call{Name: all[at]}
}
