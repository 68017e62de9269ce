package link

import (
	"slices"

	"quire/api"
	"quire/value"
)

// sameCode answers whether codes of two sound lists of codes are the same.
func sameCode(a, b api.Code) bool {
	return a.Name == b.Name && slices.EqualFunc(a.Ops, b.Ops, sameOp)
}

func sameOp(a, b api.Op) bool {
	if a.Kind != b.Kind || a.N != b.N {
		return false
	}
	// Sound operations of the other kinds have no value, and nil can't be compared.
	if a.Kind != api.OPush {
		return true
	}
	equal, _ := value.Equal(a.V, b.V)
	return equal
}
