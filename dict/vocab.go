package dict

import (
	"slices"
	"strings"

	"quire/api"
)

// placeOfVocab answers where among vocabularies with rising names the one with a name stands, or would stand.
func placeOfVocab(d api.Dict, name string) (int, bool) {
	return slices.BinarySearchFunc(d.Vocabs, name, func(v api.Vocab, name string) int { return strings.Compare(v.Name, name) })
}

// allVocabs answers whether all names are those of vocabularies.
func allVocabs(d api.Dict, names []string) bool {
	for _, name := range names {
		if _, there := placeOfVocab(d, name); !there {
			return false
		}
	}
	return true
}

// anyTwice answers whether a name stands twice among names.
func anyTwice(names []string) bool {
	sorted := slices.Sorted(slices.Values(names))
	return len(slices.Compact(sorted)) < len(names)
}

// usesOf answers for each vocabulary the places of those that it uses.
func usesOf(d api.Dict) [][]int {
	links := make([][]int, len(d.Vocabs))
	for i, v := range d.Vocabs {
		for _, name := range v.Uses {
			at, _ := placeOfVocab(d, name)
			links[i] = append(links[i], at)
		}
	}
	return links
}
