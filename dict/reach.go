package dict

// reached answers which places are come to from one by links, be it one or several; that one itself only if links lead back to it.
func reached(links [][]int, from int) []bool {
	met := make([]bool, len(links))
	found := []int{from}
	for i := 0; i < len(found); i++ {
		for _, to := range links[found[i]] {
			if !met[to] {
				met[to] = true
				found = append(found, to)
			}
		}
	}
	return met
}

// anyCircle answers whether links lead from some place back to it.
func anyCircle(links [][]int) bool {
	for i := range links {
		if reached(links, i)[i] {
			return true
		}
	}
	return false
}
