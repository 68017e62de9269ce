package dict

import (
	"slices"

	"quire/api"
	"quire/value"
)

// copied answers a copy of a dictionary that shares no list with it, or false, if the body of a word is none.
func copied(d api.Dict) (api.Dict, bool) {
	var c api.Dict
	for _, v := range d.Vocabs {
		c.Vocabs = append(c.Vocabs, api.Vocab{Name: v.Name, Uses: slices.Clone(v.Uses)})
	}
	for _, w := range d.Words {
		body, ok := copyOfBody(w.Def.Body)
		if !ok {
			return api.Dict{}, false
		}
		w.Def.Body = body
		c.Words = append(c.Words, w)
	}
	return c, true
}

// copyOfBody answers a copy of a word's body, or false, if it is not sound, or a box stands in it.
func copyOfBody(body []api.Item) ([]api.Item, bool) {
	v, e := value.Copy(api.Quot{Items: body})
	if e != api.OK {
		return nil, false
	}
	boxes, _ := value.Boxes(v)
	for range boxes {
		return nil, false
	}
	return itemsOf(v), true
}

// itemsOf answers the items of a quotation.
func itemsOf(v api.Value) []api.Item {
	quot, _ := v.(api.Quot)
	return quot.Items
}

// copies answers copies of dictionaries that are sound.
func copies(list []api.Dict) []api.Dict {
	var all []api.Dict
	for _, d := range list {
		c, _ := copied(d)
		all = append(all, c)
	}
	return all
}
