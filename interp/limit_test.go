package interp_test

import (
	"fmt"
	"math"
	"slices"
	"strings"
	"testing"

	"quire/api"
	"quire/interp"
)

// P13.2: MaxFrames

// at answers a trial of a source that is carried out when there are so many frames, and the fuel that it takes to get there: words call one another for that. Their frames stay, though nothing is behind the call.
func at(t *testing.T, frames int, source string, stack ...api.Value) (trial, int) {
	t.Helper()
	r := on(t, source, stack...)
	for i := range frames - 1 {
		r.words = append(r.words, api.Def{Name: fmt.Sprint("w", i), Body: r.items})
		r.items = []api.Item{call(fmt.Sprint("w", i))}
	}
	return r, frames - 1
}

func TestFrames(t *testing.T) {
	for _, c := range []struct {
		source string
		more   int // frames that it lays on top of one another
		ahead  int // steps up to the one that lays the last
		all    int // steps
	}{
		{"1 drop", 0, 0, 2},
		{"[ ] call", 1, 2, 2},
		{"[ 1 drop ] call", 1, 2, 4},
		{"[ [ ] call ] call", 2, 4, 4},
		{"1 [ ] dip drop", 2, 3, 4},
		{"1 [ ] keep drop drop", 2, 3, 5},
		{"t [ ] [ ] if", 1, 4, 4},
		{"f [ ] [ ] if", 1, 4, 4},
		{"t [ ] when", 1, 3, 3},
		{"f [ ] when", 0, 0, 3},
		{"0 [ ] times", 1, 3, 3},
		{"-5 [ ] times", 1, 3, 3},
		{"1 [ ] times", 2, 4, 4},
		{"{ } [ ] each", 1, 3, 3},
		{"{ 1 } [ drop ] each", 2, 4, 5},
		{"[ f ] loop", 2, 3, 4},
		{"[ ] call [ ] call [ ] call [ ] call", 1, 2, 8},
		{"1 [ [ ] call ] dip drop", 3, 5, 6},
		{"2 [ 2 [ ] times ] times", 4, 8, 3 + 2*(4+2)},
	} {
		for frames := api.MaxFrames - 5; frames <= api.MaxFrames; frames++ {
			r, fuel := at(t, frames, c.source)
			if frames+c.more <= api.MaxFrames {
				r.leaves(t, only(1), "", fuel+c.all)
			} else if frames+c.more == api.MaxFrames+1 {
				r.fails(t, plenty, fuel+c.ahead, api.ErrDeep)
			} else if _, _, _, e := interp.Run(r.words, r.items, r.state, plenty); e != api.ErrDeep {
				t.Errorf("%q at %d frames: %d", c.source, frames, e)
			}
		}
	}
}

func TestWordsWithinOneAnother(t *testing.T) {
	for _, source := range []string{"aa", "aa 1 drop", "[ aa ] call"} {
		r := try(t, "aa", word(t, "aa", source))
		if _, _, _, e := interp.Run(r.words, r.items, r.state, plenty); e != api.ErrDeep {
			t.Errorf("aa, which is %s: %d", source, e)
		}
	}
	refuses(t, "aa", 128, api.ErrDeep, word(t, "aa", "aa"))
	refuses(t, "aa", 128, api.ErrDeep, word(t, "aa", "bb"), word(t, "bb", "aa"))
}

// Frames that are done are no longer there.
func TestFramesGo(t *testing.T) {
	gives(t, "500 [ 1 [ aa ] dip [ ] keep t [ drop ] when drop ] times", "", 3+500*14, word(t, "aa", "[ ] call"))
}

// P13.2: MaxStack

func full(n int) []api.Value { return alike(n, num(7)) }

func TestStack(t *testing.T) {
	for _, c := range []struct {
		source string
		high   int // how many values more there are at the most than at first
		more   int // how many more in the end
		ahead  int // steps up to the one that pushes the last of the highest
		all    int
	}{
		{"1", 1, 1, 1, 1},
		{"dup", 1, 1, 1, 1},
		{"dup drop", 1, 0, 1, 2},
		{"over", 1, 1, 1, 1},
		{"tuck", 1, 1, 1, 1},
		{"swap rot", 0, 0, 0, 2},
		{"pair unpair", 0, 0, 0, 2},
		{"drop { 1 2 } unpair", 1, 1, 3, 3},
		{"nip 1", 0, 0, 0, 2},
		{"box get", 0, 0, 0, 2},
		{"aa", 1, 0, 2, 3},
		{"drop [ 1 ] call", 0, 0, 0, 4},
		{"drop [ 1 1 ] call", 1, 1, 5, 5},
		{"[ 1 ] dip", 1, 1, 1, 3},
		{"[ drop 1 1 ] dip", 1, 1, 1, 5},
		{"drop [ 1 1 ] dip", 1, 1, 5, 5},
		{"drop [ 1 1 ] dip drop drop", 1, -1, 5, 7},
		{"drop [ ] keep", 0, 0, 0, 3},
		{"drop [ 1 ] keep", 1, 1, 4, 4},
		{"drop drop { 1 2 } [ ] each", 0, 0, 0, 7},
		{"drop drop { 1 2 3 } [ ] each", 1, 1, 8, 8},
		{"drop drop 3 [ 1 ] times", 1, 1, 5 + 6, 5 + 6},
		{"drop [ f ] loop", 0, -1, 0, 5},
	} {
		next := 1
		if strings.Contains(c.source, "box") {
			next = 2
		}
		for n := api.MaxStack - 3; n <= api.MaxStack; n++ {
			r := on(t, c.source, full(n)...)
			r.words = defs(word(t, "aa", "1 drop"))
			if n+c.high > api.MaxStack {
				r.fails(t, plenty, c.ahead, api.ErrLarge)
				continue
			}
			s, _, used, e := interp.Run(r.words, r.items, r.state, plenty)
			if e != api.OK || used != c.all || len(s.Stack) != n+c.more || s.Next != next {
				t.Errorf("%q on %d values: %d values, used %d, error %d", c.source, n, len(s.Stack), used, e)
			}
		}
	}
}

// Of a word that fails nothing is pushed: a full stack does not matter then.
func TestAFullStackAndAnotherError(t *testing.T) {
	below := full(api.MaxStack - 1)
	on(t, "unpair", append(below, num(1))...).fails(t, plenty, 1, api.ErrKind)
	on(t, "unpair", append(below, list(num(1)))...).fails(t, plenty, 1, api.ErrRange)
	on(t, "unpair", append(below, list(num(1), num(2)))...).fails(t, plenty, 1, api.ErrLarge)
	on(t, "foo", append(below, num(1))...).fails(t, plenty, 1, api.ErrName)
	on(t, "1", append(below, num(1))...).fails(t, 0, 0, api.ErrFuel)
}

// Each may come to the end of the stack, and to that of the frames.
func TestEachAtBothLimits(t *testing.T) {
	args := append(full(api.MaxStack-2), list(num(1), num(2), num(3)), quot(call("drop")))
	r, fuel := at(t, api.MaxFrames-1, "each", args...)
	r.fails(t, plenty, fuel+2, api.ErrDeep)
	args = append(full(api.MaxStack-2), list(num(1), num(2), num(3)), quot())
	r, fuel = at(t, api.MaxFrames-2, "each", args...)
	r.fails(t, plenty, fuel+4, api.ErrLarge)
}

// P13.2: fuel

func TestFuel(t *testing.T) {
	r := try(t, "[ t ] loop")
	for _, fuel := range []int{0, 1, 2, 3, 100, api.MaxFuel - 1, api.MaxFuel} {
		r.fails(t, fuel, fuel, api.ErrFuel)
	}
	for _, fuel := range []int{api.MaxFuel + 1, 1 << 40, math.MaxInt} {
		r.fails(t, fuel, api.MaxFuel, api.ErrFuel)
	}
	for _, fuel := range []int{-1, -api.MaxFuel, math.MinInt} {
		r.fails(t, fuel, 0, api.ErrFuel)
		trial{state: only(1)}.leavesWith(t, fuel, 0)
	}
}

// leavesWith holds that a run goes through with so much fuel, and how much it uses.
func (r trial) leavesWith(t *testing.T, fuel, want int) {
	t.Helper()
	if _, _, used, e := interp.Run(r.words, r.items, r.state, fuel); used != want || e != api.OK {
		t.Errorf("%v with fuel %d: used %d, error %d", r, fuel, used, e)
	}
}

// A run may use all of the fuel that there can be, and not one more.
func TestAllOfTheFuel(t *testing.T) {
	many := slices.Repeat([]api.Item{push(num(1)), call("drop")}, api.MaxFuel/2)
	for _, fuel := range []int{api.MaxFuel, api.MaxFuel + 1, math.MaxInt} {
		trial{items: many, state: only(1)}.leavesWith(t, fuel, api.MaxFuel)
		trial{items: append(slices.Clip(many), push(num(1))), state: only(1)}.fails(t, fuel, api.MaxFuel, api.ErrFuel)
	}
	trial{items: many, state: only(1)}.fails(t, api.MaxFuel-1, api.MaxFuel-1, api.ErrFuel)
}

// Fuel is asked for ahead of what a step does.
func TestFuelComesFirst(t *testing.T) {
	for _, source := range []string{"+", "foo", "call", "dup", "get", ".", "aa"} {
		try(t, source, word(t, "aa", "aa")).fails(t, 0, 0, api.ErrFuel)
	}
	r, fuel := at(t, api.MaxFrames, "[ ] call")
	r.fails(t, fuel+1, fuel+1, api.ErrFuel)
	r.fails(t, fuel+2, fuel+2, api.ErrDeep)
	r, fuel = at(t, api.MaxFrames-1, "1 [ ] times")
	r.fails(t, fuel+3, fuel+3, api.ErrFuel)
	r.fails(t, fuel+4, fuel+4, api.ErrDeep)
}

// P13.2: MaxOut

func TestOut(t *testing.T) {
	text := strings.Repeat("x", api.MaxOut/4-3)
	first := []api.Item{push(str(text)), call(".")}
	all := slices.Repeat(first, 3)
	told := strings.Repeat(`"`+text+`" `, 3)
	for _, c := range []struct {
		last string
		e    api.Errno
	}{{text[1:], api.OK}, {text, api.OK}, {text + "x", api.ErrLarge}, {text + "xx", api.ErrLarge}} {
		r := trial{items: append(slices.Clip(all), push(str(c.last)), call(".")), state: only(1)}
		if c.e == api.OK {
			r.leaves(t, only(1), told+`"`+c.last+`" `, 8)
		} else {
			r.fails(t, plenty, 8, c.e)
		}
	}
	fullOut := append(slices.Clip(all), first...)
	trial{items: append(slices.Clip(fullOut), push(num(1)), call(".")), state: only(1)}.fails(t, plenty, 10, api.ErrLarge)
	trial{items: append(slices.Clip(fullOut), push(num(1))), state: only(1)}.leaves(t, only(1, num(1)), told+`"`+text+`" `, 9)
	trial{items: append(slices.Clip(fullOut), call(".")), state: only(1)}.fails(t, plenty, 9, api.ErrUnder)
}

// A text may by itself be more than all that can be told.
func TestOutOfOneText(t *testing.T) {
	long := str(strings.Repeat("x", api.MaxStr))
	on(t, ".", list(long, long, long)).leaves(t, only(1), "{ "+strings.Repeat(`"`+long.(api.Str).S+`" `, 3)+"} ", 1)
	on(t, ".", list(alike(4, long)...)).fails(t, plenty, 1, api.ErrLarge)
	on(t, ".", list(alike(api.MaxSize-1, long)...)).fails(t, plenty, 1, api.ErrLarge)
	on(t, "[ . t ] loop", alike(250, list(num(1)))...).fails(t, plenty, 2+250*3+2, api.ErrUnder)
}

// P13.2: MaxBoxes

func TestBoxNumbers(t *testing.T) {
	for _, next := range []int{1, 2, 77, api.MaxBoxes - 1} {
		r := trial{items: items(t, "5 box"), state: only(next)}
		r.leaves(t, api.State{Stack: values(box(next)), Boxes: boxes(holds(next, num(5))), Next: next + 1}, "", 2)
	}
	last := api.MaxBoxes - 1
	trial{items: items(t, "5 box get box"), state: only(last)}.fails(t, plenty, 4, api.ErrLarge)
	trial{items: items(t, "5 box get"), state: only(last)}.leaves(t, only(api.MaxBoxes, num(5)), "", 3)
	trial{items: items(t, "5 box"), state: only(api.MaxBoxes)}.fails(t, plenty, 2, api.ErrLarge)
	trial{items: items(t, "box"), state: only(api.MaxBoxes)}.fails(t, plenty, 1, api.ErrUnder)
	r := trial{items: items(t, "6 over put dup get"), state: api.State{Stack: values(box(last)), Boxes: boxes(holds(last, num(1))), Next: api.MaxBoxes}}
	r.leaves(t, api.State{Stack: values(box(last), num(6)), Boxes: boxes(holds(last, num(6))), Next: api.MaxBoxes}, "", 5)
}

// Boxes that are gone give no number back.
func TestManyBoxes(t *testing.T) {
	try(t, "4000 [ 1 box drop ] times 2 box").leaves(t, api.State{Stack: values(box(4001)), Boxes: boxes(holds(4001, num(2))), Next: 4002}, "", 3+4000*4+2)
}

// P13.2: MaxSize and MaxNest

func TestLargeValues(t *testing.T) {
	for _, v := range []api.Value{listOf(api.MaxSize), quotOf(api.MaxSize), nested(api.MaxNest, str("a")), str(strings.Repeat("é", api.MaxStr/2))} {
		trial{items: []api.Item{push(v), call("dup"), call("drop")}, state: only(1)}.leaves(t, only(1, v), "", 3)
		trial{items: []api.Item{push(v), call("box"), call("get")}, state: only(1)}.leaves(t, only(2, v), "", 3)
	}
	for _, v := range []api.Value{listOf(api.MaxSize), quotOf(api.MaxSize), nested(api.MaxNest, str("a"))} {
		trial{items: []api.Item{push(v), call("wrap")}, state: only(1)}.fails(t, plenty, 2, api.ErrLarge)
	}
	refuses(t, "{ 1 } 20 [ dup append ] times", 4+10*3, api.ErrLarge)
	refuses(t, "{ } 40 [ wrap ] times", 4+32*2, api.ErrLarge)
	refuses(t, `"ab" 20 [ dup append ] times`, 4+12*3, api.ErrLarge)
	refuses(t, "[ ] 2000 [ 1 swap curry ] times", 4+1024*4, api.ErrLarge)
	refuses(t, "1 [ 2 * t ] loop", 3+60*4-1, api.ErrOver)
}
