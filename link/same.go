package link

import (
	"slices"

	"quire/api"
	"quire/value"
)

func sameCode(a, b api.Code) bool {
	return a.Name == b.Name && slices.EqualFunc(a.Ops, b.Ops, sameOp)
}

func sameOp(a, b api.Op) bool {
	return a.Kind == b.Kind && a.N == b.N && sameValue(a.V, b.V)
}

// sameValue answers whether two values are equal. What is not sound can't be compared, so two such count as one; so does no value at all.
func sameValue(a, b api.Value) bool {
	equal, e := value.Equal(a, b)
	if e != api.OK {
		return value.Check(a) != api.OK && value.Check(b) != api.OK
	}
	return equal
}
