package parse

import "testing"

// A panic that is not the reader's own is none of a source's faults, and goes on.
func TestOnlyItsOwnPanicIsCaught(t *testing.T) {
	defer func() {
		if caught := recover(); caught != "another" {
			t.Errorf("caught: %v", caught)
		}
	}()
	readAll("a", func(*reader) int { panic("another") })
	t.Errorf("the panic was caught inside")
}
