package value_test

import (
	"math"
	"runtime"
	"slices"
	"testing"

	"quire/api"
	"quire/value"
)

// P8.3

// caught answers what a function panics with.
func caught(do func()) (what any) {
	defer func() { what = recover() }()
	do()
	return nil
}

// panics holds that a call panics just as an assertion does.
func panics(t *testing.T, name string, v api.Value, must, assertion func()) {
	t.Helper()
	what, own := caught(must).(*runtime.TypeAssertionError)
	want, _ := caught(assertion).(*runtime.TypeAssertionError)
	if !own || want == nil || what.Error() != want.Error() {
		t.Errorf("%s of %T: %v, want %v", name, v, what, want)
	}
}

// others answers values that are neither an Int nor a List.
func others() []api.Value {
	return []api.Value{nil, str("1"), flag(true), box(1), quot(), quot(push(num(1))), &api.Int{N: 1}, &api.List{}, &api.Str{}, (*api.Int)(nil), (*api.List)(nil), falseValue{}, falseValue{num(1)}, falseValue{list()}, falseInt{}}
}

func TestMustInt(t *testing.T) {
	for _, n := range []int64{0, 1, -1, 7, api.MaxInt, api.MinInt} {
		if got := value.MustInt(num(n)); got != n {
			t.Errorf("MustInt(%d): %d", n, got)
		}
	}
	for _, v := range append(others(), list(), list(num(1))) {
		panics(t, "MustInt", v, func() { value.MustInt(v) }, func() { _ = v.(api.Int).N })
	}
}

// A number that is not sound is an Int all the same.
func TestMustIntOfWhatIsNotSound(t *testing.T) {
	for _, n := range []int64{api.MaxInt + 1, api.MinInt - 1, math.MaxInt64, math.MinInt64} {
		if got := value.MustInt(num(n)); got != n {
			t.Errorf("MustInt(%d): %d", n, got)
		}
	}
}

func TestMustList(t *testing.T) {
	for _, want := range [][]api.Value{nil, {}, {num(1)}, {num(1), str("a"), box(3), flag(true)}, {list(num(1), list()), quot(call("a"), push(list(num(2))))}, alike(most, list())} {
		if got := value.MustList(api.List{Items: want}); tell(list(got...)) != tell(list(want...)) {
			t.Errorf("MustList: %s, want %s", short(tell(list(got...))), short(tell(list(want...))))
		}
	}
	for _, v := range append(others(), num(1)) {
		panics(t, "MustList", v, func() { value.MustList(v) }, func() { _ = v.(api.List).Items })
	}
}

func TestMustListOfWhatIsNotSound(t *testing.T) {
	first := &api.Int{N: 1}
	got := value.MustList(list(nil, first, num(math.MaxInt64), str("\xff"), box(0), falseInt{}, (*api.List)(nil), list(nil), quot(nil, call("t"), push(nil))))
	want := list(nil, first, num(math.MaxInt64), str("\xff"), box(0), falseInt{}, (*api.List)(nil), list(nil), quot(nil, call("t"), push(nil)))
	if tell(list(got...)) != tell(want) || got[1] != api.Value(first) {
		t.Errorf("MustList: %s, want %s", tell(list(got...)), tell(want))
	}
	if got := value.MustList(list(alike(1<<20, num(1))...)); !slices.Equal(got, alike(1<<20, num(1))) {
		t.Errorf("MustList of many: %d", len(got))
	}
	deep := nested(5000, num(1))
	if got := value.MustList(list(deep)); tell(got[0]) != tell(deep) {
		t.Errorf("MustList of a deep list: %s", short(tell(got[0])))
	}
}

// Lists that hold themselves, or one another over and over.
func TestMustListWithoutAnEnd(t *testing.T) {
	for _, wide := range []int{1, 2, 3, 1000, 1 << 17} {
		round := make([]api.Value, wide)
		code := []api.Item{push(list(round...)), call("a")}
		for i := range round {
			round[i] = list(round...)
			if i%2 == 1 {
				round[i] = quot(code...)
			}
		}
		got := value.MustList(list(round...))
		if len(got) != wide || len(got[0].(api.List).Items) != wide {
			t.Errorf("MustList: %d values", len(got))
		}
	}
	wide := list()
	for range 60 {
		wide = list(wide, wide)
	}
	if got := value.MustList(wide); len(got) != 2 || len(got[1].(api.List).Items) != 2 {
		t.Errorf("MustList: %d values", len(got))
	}
}
