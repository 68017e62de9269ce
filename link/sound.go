package link

import (
	"quire/api"
	"quire/prim"
	"quire/value"
)

// mayName answers whether a name may be called and is no primitive.
func mayName(name string) bool {
	return plain([]api.Item{api.Call{Name: name}}) && !prim.Is(name)
}

// plain answers whether items are sound as a quotation, and no box stands in them.
func plain(items []api.Item) bool {
	boxes, e := value.Boxes(api.Quot{Items: items})
	for range boxes {
		return false
	}
	return e == api.OK
}

// copyOf answers a copy of items that are sound as a quotation.
func copyOf(items []api.Item) []api.Item {
	v, _ := value.Copy(api.Quot{Items: items})
	quot, _ := v.(api.Quot)
	return quot.Items
}
