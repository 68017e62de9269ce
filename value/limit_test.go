package value_test

import (
	"strings"
	"testing"

	"quire/api"
	"quire/value"
)

const most = api.MaxSize - 1 // parts that fit in one list

// P8.1: sizes and depths

// nested answers a value of so many lists and quotations within one another around some value.
func nested(deep int, inner api.Value) api.Value {
	for i := range deep {
		if i%2 == 0 {
			inner = list(inner)
		} else {
			inner = quot(push(inner))
		}
	}
	return inner
}

func TestSizes(t *testing.T) {
	is(t, list(alike(most, num(1))...), api.MaxSize, 1, "{ "+strings.Repeat("1 ", most)+"}")
	is(t, quot(times(most, call("a"))...), api.MaxSize, 1, "[ "+strings.Repeat("a ", most)+"]")
	is(t, quot(times(most, push(str("")))...), api.MaxSize, 1, "[ "+strings.Repeat(`"" `, most)+"]")
	is(t, list(alike(most, list())...), api.MaxSize, 2, "{ "+strings.Repeat("{ } ", most)+"}")
	is(t, list(quot(times(most-1, call("a"))...)), api.MaxSize, 2, "{ [ "+strings.Repeat("a ", most-1)+"] }")
	is(t, list(alike(most/3, list(num(1), flag(true)))...), api.MaxSize, 2, "{ "+strings.Repeat("{ 1 t } ", most/3)+"}")
	for _, v := range []api.Value{num(1), str(""), flag(true), box(1), list(), quot()} {
		sound(t, list(alike(most, v)...))
		sound(t, quot(times(most, push(v))...))
		refused(t, list(alike(most+1, v)...))
		refused(t, quot(times(most+1, push(v))...))
		refused(t, list(quot(times(most-1, call("a"))...), v))
		refused(t, list(append(alike(most/2, list(num(1))), v, v)...))
	}
	refused(t, quot(times(most+1, call("a"))...))
	refused(t, list(quot(times(most, call("a"))...)))
	refused(t, list(alike(1<<20, num(1))...))
	refused(t, list(make([]api.Value, 1<<20)...))
	refused(t, quot(make([]api.Item, 1<<20)...))
}

// The items' size is that of a quotation, which is one more than theirs.
func TestSizesOfItems(t *testing.T) {
	for _, item := range []api.Item{call("a"), push(num(1)), push(list())} {
		checksItems(t, api.OK, times(most, item)...)
		checksItems(t, api.ErrForm, times(most+1, item)...)
	}
	checksItems(t, api.OK, push(list(alike(most-1, num(1))...)))
	checksItems(t, api.ErrForm, push(list(alike(most, num(1))...)))
	checksItems(t, api.ErrForm, push(list(alike(most-1, num(1))...)), call("a"))
}

func TestDepths(t *testing.T) {
	for _, inner := range []api.Value{num(1), str("a"), flag(true), box(1)} {
		for deep := range api.MaxNest + 1 {
			if n, e := value.Depth(nested(deep, inner)); n != deep || e != api.OK {
				t.Errorf("Depth of %d lists around %s: %d, %d", deep, tell(inner), n, e)
			}
		}
		refused(t, nested(api.MaxNest+1, inner))
	}
	for _, inner := range []api.Value{list(), quot(), quot(call("a")), list(num(1)), quot(push(num(1)))} {
		for deep := range api.MaxNest {
			if n, e := value.Depth(nested(deep, inner)); n != deep+1 || e != api.OK {
				t.Errorf("Depth of %d lists around %s: %d, %d", deep, tell(inner), n, e)
			}
		}
		refused(t, nested(api.MaxNest, inner))
	}
	refused(t, nested(5000, num(1)))
	refused(t, nested(5000, nil))
}

func TestDepthIsTheGreatest(t *testing.T) {
	deep := nested(api.MaxNest-1, num(1))
	for _, v := range []api.Value{list(deep, num(1), list()), list(list(), num(1), deep), list(num(1), deep, quot(call("a"))), quot(push(list()), push(deep), call("a"))} {
		if n, e := value.Depth(v); n != api.MaxNest || e != api.OK {
			t.Errorf("Depth(%s): %d, %d", short(tell(v)), n, e)
		}
		refused(t, list(num(1), v))
	}
}

func TestDepthsOfItems(t *testing.T) {
	checksItems(t, api.OK, push(nested(api.MaxNest-1, num(1))), call("a"))
	checksItems(t, api.ErrForm, push(nested(api.MaxNest, num(1))), call("a"))
	checksItems(t, api.OK, push(nested(api.MaxNest-2, quot(call("a")))))
	checksItems(t, api.ErrForm, call("a"), push(nested(api.MaxNest-1, quot(call("a")))))
}

// A value may be as large and as deep as there is, both together.
func TestBothLimits(t *testing.T) {
	inner := list(alike(api.MaxSize-api.MaxNest, num(1))...)
	v := nested(api.MaxNest-1, inner)
	size, e := value.Size(v)
	depth, f := value.Depth(v)
	if size != api.MaxSize || depth != api.MaxNest || e != api.OK || f != api.OK {
		t.Errorf("Size %d, %d; Depth %d, %d", size, e, depth, f)
	}
	refused(t, nested(api.MaxNest-1, list(alike(api.MaxSize-api.MaxNest+1, num(1))...)))
	refused(t, nested(api.MaxNest, inner))
}

// Lists that hold themselves, or one another over and over.
func TestValuesWithoutAnEnd(t *testing.T) {
	for _, wide := range []int{1, 2, 1000} {
		round := make([]api.Value, wide)
		for i := range round {
			round[i] = list(round...)
		}
		refused(t, list(round...))
		code := make([]api.Item, wide)
		for i := range code {
			code[i] = push(quot(code...))
		}
		refused(t, quot(code...))
		checksItems(t, api.ErrForm, code...)
	}
	wide := list()
	for range api.MaxNest - 1 {
		wide = list(wide, wide)
	}
	refused(t, wide)
}

// The chapter bounds the size of a value alone, not the bytes of its text.
func TestLongTexts(t *testing.T) {
	long := str(strings.Repeat("\n", api.MaxStr))
	word := `"` + strings.Repeat(`\n`, api.MaxStr) + `"`
	for _, n := range []int{7, 8, 100, most} {
		is(t, list(alike(n, long)...), n+1, 1, "{ "+strings.Repeat(word+" ", n)+"}")
	}
}
