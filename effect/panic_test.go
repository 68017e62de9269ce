package effect

import (
	"testing"

	"quire/api"
)

// A panic that is not the inference's own is none of the items' faults, and goes on.
func TestOnlyItsOwnPanicIsCaught(t *testing.T) {
	if x, e := caught(func() api.Effect { panic(fault{api.ErrName}) }); x != (api.Effect{}) || e != api.ErrName {
		t.Errorf("its own: %v, %d", x, e)
	}
	defer func() {
		if what := recover(); what != "another" {
			t.Errorf("caught: %v", what)
		}
	}()
	caught(func() api.Effect { panic("another") })
	t.Errorf("the panic was caught inside")
}
