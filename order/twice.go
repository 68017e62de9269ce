package order

import (
	"slices"

	"quire/api"
)

// leastTwice answers the least name that two of list have, or that one has whose Uses name one twice.
func leastTwice(list []api.Vocab) (string, bool) {
	faults := twice(namesOf(list))
	for _, v := range list {
		if len(twice(v.Uses)) > 0 {
			faults = append(faults, v.Name)
		}
	}
	if len(faults) == 0 {
		return "", false
	}
	return slices.Min(faults), true
}

// twice answers the names that stand more than once among names.
func twice(names []string) []string {
	sorted := slices.Sorted(slices.Values(names))
	var found []string
	for i := 1; i < len(sorted); i++ {
		if sorted[i] == sorted[i-1] {
			found = append(found, sorted[i])
		}
	}
	return found
}

func namesOf(list []api.Vocab) []string {
	var names []string
	for _, v := range list {
		names = append(names, v.Name)
	}
	return names
}
