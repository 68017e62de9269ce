package order

// leastOnCircle answers the least place from which links lead back to it.
func (n net) leastOnCircle() (int, bool) {
	parts := n.parts()
	least, found := 0, false
search:
	for at, uses := range n.uses {
		for _, to := range uses {
			// Within a part links lead from each place to each other, so back from there, too.
			if parts[to] == parts[at] {
				least, found = at, true
				break search
			}
		}
	}
	return least, found
}

// parts answers for each place the number of its part: two places have the same, if links lead from each of them to the other.
func (n net) parts() []int {
	parts := make([]int, len(n.uses)) // from 1 on; 0: not known yet
	leaving := n.leaving()
	for i := len(leaving) - 1; i >= 0; i-- {
		if parts[leaving[i]] == 0 {
			spread(n.users, leaving[i], parts, i+1)
		}
	}
	return parts
}

// spread gives a number to a place, and to all without one that links lead to from there.
func spread(links [][]int, from int, numbers []int, number int) {
	numbers[from] = number
	found := []int{from}
	for i := 0; i < len(found); i++ {
		for _, to := range links[found[i]] {
			if numbers[to] == 0 {
				numbers[to] = number
				found = append(found, to)
			}
		}
	}
}

// leaving answers all places in the order in which a search that goes deep leaves them. The way back is kept in a list, for it may be as long as there are places.
func (n net) leaving() []int {
	met := make([]bool, len(n.uses))
	next := make([]int, len(n.uses)) // which of a place's links comes next
	var left, way []int
	for from := range n.uses {
		if met[from] {
			continue
		}
		met[from] = true
		way = append(way, from)
	walk:
		for len(way) > 0 {
			at := way[len(way)-1]
			for next[at] < len(n.uses[at]) {
				to := n.uses[at][next[at]]
				next[at]++
				if !met[to] {
					met[to] = true
					way = append(way, to)
					continue walk
				}
			}
			way = way[:len(way)-1]
			left = append(left, at)
		}
	}
	return left
}
