package value

import (
	"quire/api"
)

// holder is a list or a quotation, by what it holds.
type holder struct {
	quot   bool
	values []api.Value // of a list
	items  []api.Item  // of a quotation
}

// place tells apart where what a holder holds stands in memory.
type place struct {
	quot  bool
	value *api.Value
	item  *api.Item
	n     int
}

// holderOf answers v as a holder, if it is a list or a quotation.
func holderOf(v api.Value) (holder, bool) {
	if list, ok := v.(api.List); ok {
		return holder{values: list.Items}, true
	}
	quot, ok := v.(api.Quot)
	return holder{quot: ok, items: quot.Items}, ok
}

func (h holder) whole() api.Value {
	if h.quot {
		return api.Quot{Items: h.items}
	}
	return api.List{Items: h.values}
}

// parts answers how many values or items are held.
func (h holder) parts() int { return len(h.values) + len(h.items) }

// place answers where the parts stand. Without parts all lists are alike, and all quotations.
func (h holder) place() place {
	at := place{quot: h.quot, n: h.parts()}
	if len(h.values) > 0 {
		at.value = &h.values[0]
	}
	if len(h.items) > 0 {
		at.item = &h.items[0]
	}
	return at
}

// inner answers the part number i as a holder, if it is one, or an item that pushes one.
func (h holder) inner(i int) (holder, bool) {
	if !h.quot {
		return holderOf(h.values[i])
	}
	if push, ok := h.items[i].(api.Push); ok {
		return holderOf(push.V)
	}
	return holder{}, false
}

// set puts another holder in the place of the part number i, which is one, too.
func (h holder) set(i int, part holder) {
	if h.quot {
		h.items[i] = api.Push{V: part.whole()}
		return
	}
	h.values[i] = part.whole()
}

// clone answers a holder of the same parts, with a list of its own.
func (h holder) clone() holder {
	return holder{quot: h.quot, values: anew(h.values), items: anew(h.items)}
}
