package prim_test

import (
	"fmt"
	"strings"
	"testing"

	"quire/api"
	"quire/prim"
)

// R4: memory

// roomy answers a list and a quotation with spare room, in which one list stands several times.
func roomy() (api.Value, api.Value) {
	one := append(make([]api.Value, 0, 5), num(1), str("two"))
	code := append(make([]api.Item, 0, 6), call("a"), push(api.List{Items: one}))
	pair := append(make([]api.Value, 0, 9), api.List{Items: one}, list(api.List{Items: one}, api.Quot{Items: code}))
	for _, spare := range [][]api.Value{one[2:5], pair[2:9]} {
		for i := range spare {
			spare[i] = str("spare")
		}
	}
	for i := range code[2:6] {
		code[:6][2+i] = call("spare")
	}
	return api.List{Items: pair}, api.Quot{Items: code}
}

// tellRoom tells a value with the spare room of its lists.
func tellRoom(v api.Value) string {
	var parts []string
	switch x := v.(type) {
	case api.List:
		for _, v := range x.Items[:cap(x.Items)] {
			parts = append(parts, tellRoom(v))
		}
		return fmt.Sprint("List ", len(x.Items), "(", strings.Join(parts, " "), ")")
	case api.Quot:
		for _, item := range x.Items[:cap(x.Items)] {
			if p, ok := item.(api.Push); ok {
				parts = append(parts, "Push "+tellRoom(p.V))
				continue
			}
			parts = append(parts, tellItem(item))
		}
		return fmt.Sprint("Quot ", len(x.Items), "(", strings.Join(parts, " "), ")")
	}
	return tell(v)
}

// spoil writes over all lists of a value, spare room included, from the innermost on.
func spoil(v api.Value) {
	switch x := v.(type) {
	case api.List:
		spoilAll(x.Items)
	case api.Quot:
		for _, item := range x.Items {
			if p, ok := item.(api.Push); ok {
				spoil(p.V)
			}
		}
		all := x.Items[:cap(x.Items)]
		for i := range all {
			all[i] = call("spoilt")
		}
	}
}

func spoilAll(list []api.Value) {
	for _, v := range list {
		spoil(v)
	}
	all := list[:cap(list)]
	for i := range all {
		all[i] = str("spoilt")
	}
}

// places gathers where the parts of a list stand, spare room included, and answers whether some stood there before.
func places(seen map[any]int, v api.Value) (again bool) {
	switch x := v.(type) {
	case api.List:
		all := x.Items[:cap(x.Items)]
		for i := range all {
			seen[&all[i]]++
			again = again || seen[&all[i]] > 1
		}
		for _, v := range x.Items {
			again = places(seen, v) || again
		}
	case api.Quot:
		all := x.Items[:cap(x.Items)]
		for i := range all {
			seen[&all[i]]++
			again = again || seen[&all[i]] > 1
		}
		for _, item := range x.Items {
			if p, ok := item.(api.Push); ok {
				again = places(seen, p.V) || again
			}
		}
	}
	return again
}

// rich answers values with lists in them that a primitive takes, and more of them further down, in a list with spare room.
func (r row) rich() []api.Value {
	l, q := roomy()
	args := append(make([]api.Value, 0, 12), l, q, l)
	for _, letter := range r.takes() {
		v := l
		switch letter {
		case "n", "m":
			v = num(1)
		case "b", "c":
			v = flag(true)
		case "q", "r":
			v = q
		}
		if r.name == ">int" {
			v = str("7")
		}
		args = append(args, v)
	}
	spare := args[len(args):cap(args)]
	for i := range spare {
		spare[i] = str("spare")
	}
	return args
}

func TestWhatIsHandedInStays(t *testing.T) {
	for _, r := range table() {
		args := r.rich()
		before := tellRoom(api.List{Items: args})
		got, e := prim.Do(r.name, args)
		if e != api.OK {
			t.Errorf("Do(%q, %s): %d", r.name, tellAll(args), e)
			continue
		}
		if tellRoom(api.List{Items: args}) != before {
			t.Errorf("Do(%q) has changed what was handed in", r.name)
		}
		spoilAll(got)
		if tellRoom(api.List{Items: args}) != before {
			t.Errorf("what Do(%q) answers is what was handed in", r.name)
		}
	}
}

// What is refused is not changed either.
func TestWhatIsRefusedStays(t *testing.T) {
	l, q := roomy()
	for _, args := range [][]api.Value{{l, q}, {q, l}, {num(9), l}, {num(-1), num(0), l}, {l, nil}, {l, nested(api.MaxNest, num(1)), q}, {listOf(api.MaxSize), l}, {quotOf(api.MaxSize), q}, {l, listOf(api.MaxSize)}} {
		before := tellRoom(api.List{Items: args})
		for _, name := range append(prim.Names(), "foo") {
			prim.Do(name, args)
			if tellRoom(api.List{Items: args}) != before {
				t.Errorf("Do(%q) has changed what was handed in", name)
			}
		}
	}
}

func TestWhatIsAnsweredSharesNothing(t *testing.T) {
	for _, r := range table() {
		args := r.rich()
		seen := map[any]int{}
		places(seen, api.List{Items: args})
		for range 2 {
			got, e := prim.Do(r.name, args)
			if e != api.OK {
				t.Fatalf("Do(%q): %d", r.name, e)
			}
			told := tellAll(got)
			if places(seen, api.List{Items: got}) {
				t.Errorf("Do(%q): a list of the answer is another's, too", r.name)
			}
			spoilAll(args)
			if tellAll(got) != told {
				t.Errorf("Do(%q): the answer changes with what was handed in", r.name)
			}
			args = r.rich()
			places(seen, api.List{Items: args})
		}
	}
}

// The lists of what is left twice are two.
func TestWhatIsLeftTwice(t *testing.T) {
	l, q := roomy()
	for _, v := range []api.Value{l, q} {
		for _, name := range []string{"dup", "over", "tuck"} {
			got, e := prim.Do(name, values(v, v))
			if e != api.OK || len(got) != 3 {
				t.Fatalf("Do(%q): %d", name, e)
			}
			for i := range got {
				for k := range got {
					if i != k && tell(got[k]) != tell(v) && tell(got[k]) != tell(list()) {
						t.Errorf("Do(%q): value %d of the answer has changed with another", name, k)
					}
				}
				spoil(got[i])
				got[i] = list()
			}
		}
	}
}

// R5: nothing of a call is seen in the next

func TestNothingIsKept(t *testing.T) {
	for range 3 {
		does(t, "+", "2 3", "5")
		refuses(t, "+", values(num(api.MaxInt), num(1)), api.ErrOver)
		refuses(t, "wrap", values(listOf(api.MaxSize)), api.ErrLarge)
		fails(t, "+", values(num(1)), api.ErrUnder)
		fails(t, "foo", values(num(1)), api.ErrName)
		does(t, "append", "{ 1 } { 2 }", "{ 1 2 }")
	}
}
