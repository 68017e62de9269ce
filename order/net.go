package order

import (
	"slices"

	"quire/api"
)

// net is what is wanted, with its links. The names rise, so that of two places the lesser one is that of the lesser name.
type net struct {
	names []string
	uses  [][]int // for each name, the places of those that it uses
	users [][]int // for each name, the places of those that use it
}

// placesOf answers where in list each name stands.
func placesOf(list []api.Vocab) map[string]int {
	places := map[string]int{}
	for i, v := range list {
		places[v.Name] = i
	}
	return places
}

// wanted answers the names of want, those that what is wanted uses, and so on, without those of have; rising, each once.
func wanted(list []api.Vocab, places map[string]int, want, have []string) []string {
	met := map[string]struct{}{}
	for _, name := range have {
		met[name] = struct{}{}
	}
	var found []string
	add := func(names []string) {
		for _, name := range names {
			if _, before := met[name]; !before {
				met[name] = struct{}{}
				found = append(found, name)
			}
		}
	}
	add(want)
	for i := 0; i < len(found); i++ {
		if at, there := places[found[i]]; there {
			add(list[at].Uses)
		}
	}
	slices.Sort(found)
	return found
}

// leastMissing answers the first of rising names that has no place.
func leastMissing(places map[string]int, names []string) (string, bool) {
	for _, name := range names {
		if _, there := places[name]; !there {
			return name, true
		}
	}
	return "", false
}

// joined answers the net of rising names. What they use beside one another is there already, and bears on no order.
func joined(list []api.Vocab, places map[string]int, names []string) net {
	n := net{names: names, uses: make([][]int, len(names)), users: make([][]int, len(names))}
	for at, name := range names {
		for _, used := range list[places[name]].Uses {
			if to, there := slices.BinarySearch(names, used); there {
				n.uses[at] = append(n.uses[at], to)
				n.users[to] = append(n.users[to], at)
			}
		}
	}
	return n
}
