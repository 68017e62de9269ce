package order

import (
	"container/heap"
)

// ready is a heap of the places that may come next, the least on top.
type ready []int

func (r ready) Len() int           { return len(r) }
func (r ready) Less(i, j int) bool { return r[i] < r[j] }
func (r ready) Swap(i, j int)      { r[i], r[j] = r[j], r[i] }

// Push is for package heap alone, as Pop is.
func (r *ready) Push(x any) {
	if at, ok := x.(int); ok {
		*r = append(*r, at)
	}
}

func (r *ready) Pop() any {
	last := len(*r) - 1
	at := (*r)[last]
	*r = (*r)[:last]
	return at
}

// take takes the least place.
func (r *ready) take() int {
	at, _ := heap.Pop(r).(int)
	return at
}

// order answers the places of a net without circles, each behind those that it uses, and each time the least that may come.
func (n net) order() []int {
	var order []int
	var next ready
	open := make([]int, len(n.uses)) // how many of those that a place uses have not come yet
	for at, uses := range n.uses {
		open[at] = len(uses)
		if open[at] == 0 {
			heap.Push(&next, at)
		}
	}
	for len(next) > 0 {
		at := next.take()
		order = append(order, at)
		for _, user := range n.users[at] {
			open[user]--
			if open[user] == 0 {
				heap.Push(&next, user)
			}
		}
	}
	return order
}

// levels answers the names of a net without circles, level by level.
func (n net) levels() [][]string {
	numbers := make([]int, len(n.names))
	for _, at := range n.order() {
		for _, to := range n.uses[at] {
			numbers[at] = max(numbers[at], numbers[to]+1)
		}
	}
	var levels [][]string
	for at, name := range n.names {
		for len(levels) <= numbers[at] {
			levels = append(levels, nil)
		}
		levels[numbers[at]] = append(levels[numbers[at]], name)
	}
	return levels
}
