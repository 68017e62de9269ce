package value

import (
	"testing"

	"quire/api"
)

// The bound is too large for a copy to be made in a test, so the count alone is held to it.
func TestHowManyPartsACopyHas(t *testing.T) {
	one := api.Int{N: 1}
	twice := func(deep int) api.Value {
		v := api.List{}
		for range deep {
			v = api.List{Items: []api.Value{v, v}}
		}
		return v
	}
	for _, c := range []struct {
		list []api.Value
		ends bool
	}{
		{nil, true},
		{[]api.Value{one}, true},
		{[]api.Value{twice(20), one}, true},
		{[]api.Value{twice(25), twice(25), one}, true},       // 2^27 - 1 parts
		{[]api.Value{twice(25), twice(25), one, one}, false}, // 2^27
		{[]api.Value{twice(26)}, true},                       // 2^27 - 1
		{[]api.Value{one, twice(26)}, false},                 // 2^27
		{[]api.Value{twice(25), twice(25), api.List{Items: []api.Value{one}}}, false},
		{[]api.Value{twice(25), twice(24), twice(24), api.List{}}, true}, // 2^27 - 2
		{[]api.Value{twice(27)}, false},
		{[]api.Value{twice(200)}, false},
		{[]api.Value{twice(100000)}, false},
	} {
		if ends := webOf(c.list).comesToAnEnd(); ends != c.ends {
			t.Errorf("%d values: %t, want %t", len(c.list), ends, c.ends)
		}
	}
}
