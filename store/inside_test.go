package store

import (
	"testing"

	"quire/api"
)

// P11.5: collections are the heap's. Nothing of them shows outside, so the heap is asked here.
func TestCollectionsAreTheHeaps(t *testing.T) {
	m, _ := New(100)
	used := func(want int) {
		t.Helper()
		if m.heap.Used() != want {
			t.Fatalf("Used: %d, want %d", m.heap.Used(), want)
		}
	}
	text := api.List{Items: []api.Value{api.Str{S: "text"}}}
	m.Push(text)
	m.Push(text)
	m.Pop()
	used(10)
	m.Minor()
	used(5)
	m.Box()
	m.Pop()
	m.Minor()
	used(5) // the old one is still there
	m.Major()
	used(0)
}

// Between two calls the values are all the roots, and reading leaves nothing behind.
func TestReadingLeavesTheHeap(t *testing.T) {
	m, _ := New(100)
	m.Push(api.List{Items: []api.Value{api.Str{S: "text"}, api.Quot{Items: []api.Item{api.Call{Name: "dup"}}}}})
	m.Box()
	m.Push(api.List{Items: []api.Value{api.Box{N: 1}}})
	used := m.heap.Used()
	m.State()
	m.Pick(0)
	m.Pick(1)
	m.Push(api.Box{N: 2})
	m.Replace(0, []api.Value{nil})
	m.Replace(3, []api.Value{api.Box{N: 1}})
	if m.heap.Used() != used || m.heap.Roots() != 2 {
		t.Errorf("Used: %d, want %d; %d roots", m.heap.Used(), used, m.heap.Roots())
	}
}
