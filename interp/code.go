package interp

import (
	"quire/api"
	"quire/value"
)

// copyOfItems answers a copy of items, or false, if one of them is not sound, or a box stands in it. There may be more of them than a quotation may have.
func copyOfItems(items []api.Item) ([]api.Item, bool) {
	made := make([]api.Item, len(items))
	for i, item := range items {
		one, ok := copyOfItem(item)
		if !ok {
			return nil, false
		}
		made[i] = one
	}
	return made, true
}

func copyOfItem(item api.Item) (api.Item, bool) {
	switch x := item.(type) {
	case api.Push:
		v, ok := copyWithoutBoxes(x.V)
		return api.Push{V: v}, ok
	case api.Call:
		return x, callable(x.Name)
	}
	return nil, false
}

// copyWithoutBoxes answers a copy of v, or false, if v is not sound, or a box stands in it.
func copyWithoutBoxes(v api.Value) (api.Value, bool) {
	one, e := value.Copy(v)
	if e != api.OK {
		return nil, false
	}
	boxes, _ := value.Boxes(one)
	for range boxes {
		return nil, false
	}
	return one, true
}

// callable answers whether a name is one that an item may call.
func callable(name string) bool {
	return value.CheckItems([]api.Item{api.Call{Name: name}}) == api.OK
}

// bodiesOf answers copies of the bodies of words by their names, of several with one name that of the first, or false, if a word is none that may be handed in.
func bodiesOf(words []api.Def) (map[string][]api.Item, bool) {
	bodies := map[string][]api.Item{}
	for _, word := range words {
		body, ok := copyWithoutBoxes(api.Quot{Items: word.Body})
		if !ok || !callable(word.Name) {
			return nil, false
		}
		if _, there := bodies[word.Name]; !there {
			bodies[word.Name] = quotation(body)
		}
	}
	return bodies, true
}
