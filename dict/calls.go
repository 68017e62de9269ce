package dict

import (
	"slices"

	"quire/api"
)

// callsIn answers the names that stand in calls of items, however deep, rising and each once.
func callsIn(items []api.Item) []string {
	names := addCalls(nil, items)
	slices.Sort(names)
	return slices.Compact(names)
}

func addCalls(names []string, items []api.Item) []string {
	for _, item := range items {
		switch x := item.(type) {
		case api.Call:
			names = append(names, x.Name)
		case api.Push:
			names = addCallsOf(names, x.V)
		}
	}
	return names
}

func addCallsOf(names []string, v api.Value) []string {
	switch x := v.(type) {
	case api.Quot:
		return addCalls(names, x.Items)
	case api.List:
		for _, part := range x.Items {
			names = addCallsOf(names, part)
		}
	}
	return names
}
