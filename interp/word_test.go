package interp_test

import (
	"testing"

	"quire/api"
	"quire/prim"
)

// P13.2: words of the dictionary

func TestWords(t *testing.T) {
	sq, quad := word(t, "sq", "dup *"), word(t, "quad", "sq sq")
	gives(t, "3 sq", "9", 4, sq)
	gives(t, "3 quad", "81", 8, sq, quad)
	gives(t, "3 quad", "81", 8, quad, sq)
	gives(t, "nothing", "", 1, word(t, "nothing", ""))
	gives(t, "3 [ sq ] call [ quad ] call", "6561", 15, sq, quad)
	gives(t, "3 [ sq 1 2 + ] quad drop", "9 3", 12, sq, word(t, "quad", "dup dip"))
}

// Each name is looked up as it is called, and not ahead of that.
func TestNamesAreLookedUpLate(t *testing.T) {
	gives(t, "[ foo ] drop [ 1 ] drop", "", 4)
	gives(t, "f [ foo ] when", "", 3)
	gives(t, "t [ 1 ] [ foo ] if", "1", 5)
	gives(t, "0 [ foo ] times", "", 3)
	gives(t, "{ } [ foo ] each", "", 3)
	refuses(t, "1 2 foo 3", 3, api.ErrName)
	refuses(t, "[ 1 foo ] call", 4, api.ErrName)
	refuses(t, "a", 2, api.ErrName, word(t, "a", "b"))
	refuses(t, "{ 1 } [ b ] each", 5, api.ErrName, word(t, "a", ""))
	refuses(t, "Dup", 1, api.ErrName)
	refuses(t, "dupp", 1, api.ErrName, word(t, "dup", ""), word(t, "du", ""), word(t, "duppp", ""))
}

func TestTheFirstOfOneNameCounts(t *testing.T) {
	gives(t, "a b a", "1 3 1", 6, word(t, "a", "1"), word(t, "a", "2"), word(t, "b", "3"), word(t, "a", "4"), word(t, "b", "5"))
	gives(t, "a", "", 1, word(t, "a", ""), word(t, "a", "2"))
}

// A primitive's name is the primitive's, whatever words there are.
func TestPrimitivesComeFirst(t *testing.T) {
	for _, name := range prim.Names() {
		r := try(t, `"a" box t 3 7 { 1 2 } [ t ] `+name, word(t, name, `"none"`), word(t, "other", ""))
		without := r
		without.words = nil
		same(t, r, without, plenty)
	}
	gives(t, "1 dup", "1 1", 2, word(t, "dup", "2"))
	gives(t, "1 [ 2 ] call", "1 2", 4, word(t, "call", "drop"))
	gives(t, "1 a", "1 1", 3, word(t, "a", "dup"), word(t, "dup", "2"))
}

// P13.2: primitives of the table

func TestTable(t *testing.T) {
	gives(t, `1 2 swap over rot nip tuck`, "2 1 2", 7)
	gives(t, `7 2 / 7 2 mod 3 -4 * neg`, "3 1 12", 10)
	gives(t, `1 2 < 1 2 > = not`, "t", 8)
	gives(t, `"é" length "ab" reverse 1 wrap { 2 } append`, `1 "ba" { 1 2 }`, 8)
	gives(t, `5 [ + ] curry [ 1 - ] compose 2 swap call`, "6", 12)
	gives(t, `{ 1 "b" } unpair >str swap`, `"\"b\"" 1`, 4)
	gives(t, `12 >str >int "é" 0 over nth =`, `12 t`, 8)
}

// What the table does, a run does, with as many values as there are.
func TestTableIsDo(t *testing.T) {
	args := stack(t, `{ 1 2 } "é" [ a ] t f 0 1 5 "7" { } [ ] { 3 4 } { 1 { 2 } } "abc"`)
	tried := 0
	for _, name := range prim.Names() {
		x, ok := prim.Effect(name)
		if !ok || name == "box" || name == "get" || name == "put" || name == "." {
			continue
		}
		for _, list := range combinations(args, x.In) {
			for k := range len(list) + 1 {
				tried += likeDo(t, name, list[k:])
			}
			tried += likeDo(t, name, append(values(num(9), quot()), list...))
		}
	}
	if tried < 2000 {
		t.Errorf("a primitive went through %d times", tried)
	}
}

// combinations answers all lists of so many of the values.
func combinations(of []api.Value, n int) [][]api.Value {
	if n == 0 {
		return [][]api.Value{nil}
	}
	var all [][]api.Value
	for _, rest := range combinations(of, n-1) {
		for _, v := range of {
			all = append(all, append(values(v), rest...))
		}
	}
	return all
}

// likeDo holds a run of one name against prim.Do, and answers 1, if it goes through.
func likeDo(t *testing.T, name string, args []api.Value) int {
	t.Helper()
	r := on(t, name, args...)
	want, e := prim.Do(name, args)
	if e != api.OK {
		r.fails(t, 7, 1, e)
		return 0
	}
	r.leaves(t, only(1, want...), "", 1)
	return 1
}

// P13.2: code

func TestCall(t *testing.T) {
	gives(t, "[ ] call", "", 2)
	gives(t, "1 [ 2 + 5 ] call 6", "3 5 6", 7)
	gives(t, "1 [ [ [ 2 ] call 3 ] call 4 ] call", "1 2 3 4", 10)
	refuses(t, "call", 1, api.ErrUnder)
	for _, other := range allBut('q') {
		refuses(t, other+" call", 2, api.ErrKind)
	}
}

func TestDip(t *testing.T) {
	gives(t, "1 2 [ 3 ] dip", "1 3 2", 5)
	gives(t, "1 2 3 [ + ] dip", "3 3", 6)
	gives(t, "1 2 3 [ [ dup ] dip 5 ] dip", "1 1 2 5 3", 9)
	gives(t, "1 { 2 [ 3 ] } [ drop ] dip", "{ 2 [ 3 ] }", 5)
	gives(t, "[ ] [ ] dip", "[ ]", 3)
	refuses(t, "dip", 1, api.ErrUnder)
	refuses(t, "[ 1 ] dip", 2, api.ErrUnder)
	refuses(t, "1 dip", 2, api.ErrUnder)
	refuses(t, "1 [ drop ] dip", 4, api.ErrUnder)
	for _, other := range allBut('q') {
		refuses(t, "[ ] "+other+" dip", 3, api.ErrKind)
	}
}

func TestKeep(t *testing.T) {
	gives(t, "4 [ dup * ] keep", "16 4", 5)
	gives(t, "1 2 [ + ] keep", "3 2", 5)
	gives(t, "1 2 [ drop drop 7 8 ] keep", "7 8 2", 8)
	gives(t, "1 [ ] keep", "1 1", 3)
	gives(t, "[ 1 ] [ call ] keep", "1 [ 1 ]", 5)
	refuses(t, "keep", 1, api.ErrUnder)
	refuses(t, "[ ] keep", 2, api.ErrUnder)
	refuses(t, `"a" keep`, 2, api.ErrUnder)
	refuses(t, "1 [ drop drop ] keep", 5, api.ErrUnder)
	for _, other := range allBut('q') {
		refuses(t, "[ ] "+other+" keep", 3, api.ErrKind)
	}
}

func TestIf(t *testing.T) {
	gives(t, "t [ 1 ] [ 2 ] if", "1", 5)
	gives(t, "f [ 1 ] [ 2 ] if", "2", 5)
	gives(t, "9 t [ ] [ 2 + ] if 5", "9 5", 6)
	gives(t, "9 f [ ] [ 2 + ] if 5", "11 5", 8)
	for k, s := range []string{"", "[ ]", "[ ] [ ]", "1", "1 2"} {
		refuses(t, s+" if", []int{1, 2, 3, 2, 3}[k], api.ErrUnder)
	}
	for _, other := range allBut('q') {
		refuses(t, "t [ ] "+other+" if", 4, api.ErrKind)
		refuses(t, "t "+other+" [ ] if", 4, api.ErrKind)
	}
	for _, other := range allBut('b') {
		refuses(t, other+" [ ] [ ] if", 4, api.ErrKind)
	}
}

func TestWhen(t *testing.T) {
	gives(t, "t [ 1 ] when", "1", 4)
	gives(t, "f [ 1 ] when", "", 3)
	gives(t, "9 t [ 2 + ] when 5", "11 5", 7)
	gives(t, "9 f [ 2 + ] when 5", "9 5", 5)
	for k, s := range []string{"", "[ ]", "1"} {
		refuses(t, s+" when", []int{1, 2, 2}[k], api.ErrUnder)
	}
	for _, other := range allBut('q') {
		refuses(t, "t "+other+" when", 3, api.ErrKind)
	}
	for _, other := range allBut('b') {
		refuses(t, other+" [ ] when", 3, api.ErrKind)
	}
}

func TestTimes(t *testing.T) {
	gives(t, "1 3 [ 2 * ] times", "8", 4+3+6)
	gives(t, "5 [ ] times", "", 3+5)
	gives(t, "1 [ 7 ] times", "7", 3+2)
	gives(t, "2 [ 3 [ 1 ] times ] times", "1 1 1 1 1 1", 3+2*(1+3+3*2))
	for _, n := range []string{"0", "-1", "-1152921504606846976"} {
		gives(t, n+" [ 7 ] times 8", "8", 4)
	}
	refuses(t, "1152921504606846975 [ ] times", plenty, api.ErrFuel)
	for k, s := range []string{"", "[ ]", "1"} {
		refuses(t, s+" times", []int{1, 2, 2}[k], api.ErrUnder)
	}
	refuses(t, "1 2 3 4 [ drop ] times", 6+4*2, api.ErrUnder)
	for _, other := range allBut('q') {
		refuses(t, "1 "+other+" times", 3, api.ErrKind)
	}
	for _, other := range allBut('i') {
		refuses(t, other+" [ ] times", 3, api.ErrKind)
	}
}

func TestEach(t *testing.T) {
	gives(t, "0 { 1 2 3 } [ + ] each", "6", 4+3*2)
	gives(t, "{ } [ 1 ] each 5", "5", 4)
	gives(t, `{ 1 "a" { 2 } [ b ] } [ ] each`, `1 "a" { 2 } [ b ]`, 3+4)
	gives(t, "{ { 1 2 } { } { 3 } } [ [ 10 * ] each ] each", "10 20 30", 3+3+3*2+3*3)
	refuses(t, "{ 1 2 } [ drop drop ] each", 3+3, api.ErrUnder)
	for k, s := range []string{"", "[ ]", "1"} {
		refuses(t, s+" each", []int{1, 2, 2}[k], api.ErrUnder)
	}
	for _, other := range allBut('q') {
		refuses(t, "{ } "+other+" each", 3, api.ErrKind)
	}
	for _, other := range allBut('l') {
		refuses(t, other+" [ ] each", 3, api.ErrKind)
	}
}

func TestLoop(t *testing.T) {
	gives(t, "[ f ] loop 5", "5", 5)
	gives(t, "3 [ 1 - dup 0 > ] loop", "0", 3+3*6)
	gives(t, "t t f [ ] loop", "t t", 5+1)
	gives(t, "f t t [ ] loop 7", "7", 5+3+1)
	refuses(t, "[ ] loop", 3, api.ErrUnder)
	refuses(t, "t t [ ] loop", 4+3, api.ErrUnder)
	refuses(t, "loop", 1, api.ErrUnder)
	for _, other := range allBut('q') {
		refuses(t, other+" loop", 2, api.ErrKind)
	}
	for _, other := range allBut('b') {
		refuses(t, "[ "+other+" ] loop", 4, api.ErrKind)
	}
}

// The flag of a loop is popped ahead of the step that it asks for: of one that ends no fuel is asked.
func TestALoopAsksForItsFlagFirst(t *testing.T) {
	r := try(t, "[ f ] loop")
	r.leaves(t, only(1), "", 4)
	try(t, "[ ] loop").fails(t, 3, 3, api.ErrUnder)
	try(t, "[ 1 ] loop").fails(t, 4, 4, api.ErrKind)
	try(t, "[ t ] loop").fails(t, 4, 4, api.ErrFuel)
}

// P13.2: boxes and telling

func TestBoxes(t *testing.T) {
	try(t, "5 box").leaves(t, api.State{Stack: values(box(1)), Boxes: boxes(holds(1, num(5))), Next: 2}, "", 2)
	try(t, "5 box get").leaves(t, only(2, num(5)), "", 3)
	try(t, "5 box 6 over put").leaves(t, api.State{Stack: values(box(1)), Boxes: boxes(holds(1, num(6))), Next: 2}, "", 5)
	try(t, "5 box 6 over put dup get swap get").leaves(t, only(2, num(6), num(6)), "", 9)
	try(t, "1 box 2 box 3 box swap drop").leaves(t, api.State{Stack: values(box(1), box(3)), Boxes: boxes(holds(1, num(1)), holds(3, num(3))), Next: 4}, "", 8)
	try(t, "1 box 2 box = 1 box dup =").leaves(t, only(4, flag(false), flag(true)), "", 9)
	try(t, "1 box box dup get box?").leaves(t, api.State{Stack: values(box(2), flag(true)), Boxes: boxes(holds(1, num(1)), holds(2, box(1))), Next: 3}, "", 6)
	refuses(t, "box", 1, api.ErrUnder)
	refuses(t, "get", 1, api.ErrUnder)
	refuses(t, "put", 1, api.ErrUnder)
	refuses(t, "1 put", 2, api.ErrUnder)
	refuses(t, "1 box put", 3, api.ErrUnder)
	for _, other := range allBut('x') {
		refuses(t, other+" get", 2, api.ErrKind)
		refuses(t, "1 box "+other+" put", 4, api.ErrKind)
	}
}

// A box is reached through boxes, lists and quotations; one may hold itself; those that are not reached go, and their numbers with them.
func TestWhichBoxesStay(t *testing.T) {
	try(t, "1 box dup dup put").leaves(t, api.State{Stack: values(box(1)), Boxes: boxes(holds(1, box(1))), Next: 2}, "", 5)
	try(t, "1 box dup dup put drop").leaves(t, only(2), "", 6)
	try(t, "1 box 2 box 3 box wrap wrap swap [ call ] curry pair nip").leaves(t, api.State{
		Stack: values(list(list(list(box(3))), quot(push(box(2)), call("call")))),
		Boxes: boxes(holds(2, num(2)), holds(3, num(3))), Next: 4}, "", 13)
	try(t, "1 box box box box").leaves(t, api.State{
		Stack: values(box(4)), Boxes: boxes(holds(1, num(1)), holds(2, box(1)), holds(3, box(2)), holds(4, box(3))), Next: 5}, "", 5)
	try(t, "1 box box box box get get").leaves(t, api.State{Stack: values(box(2)), Boxes: boxes(holds(1, num(1)), holds(2, box(1))), Next: 5}, "", 7)
}

// What is no longer on the stack, but comes back, still has its boxes.
func TestBoxesInFrames(t *testing.T) {
	try(t, "7 box [ 8 box drop ] dip get").leaves(t, only(3, num(7)), "", 8)
	try(t, "7 box [ get . ] curry [ ] swap dip").leaves(t, only(2, quot()), "7 ", 10)
	try(t, "7 box wrap [ 9 box drop get . ] each").leaves(t, only(3), "7 ", 11)
	try(t, "7 box [ get . ] curry 3 swap [ 1 drop ] compose times").leaves(t, only(2), "7 7 7 ", 9+3*6)
	try(t, "7 box [ dup 1 swap put get ] curry [ 1 > ] compose loop").leaves(t, only(2), "", 7+9)
}

func TestTell(t *testing.T) {
	tells(t, "1 .", "1 ", 2)
	tells(t, `-5 . "a\n" . t . f . { 1 { } [ ] } . [ dup "x" ] .`, `-5 "a\n" t f { 1 { } [ ] } [ dup "x" ] `, 12)
	try(t, "1 box dup . wrap .").leaves(t, only(2), "box { box } ", 6)
	tells(t, `"" .`, `"" `, 2)
	try(t, `1 2 . 3`).leaves(t, only(1, num(1), num(3)), "2 ", 4)
	refuses(t, ".", 1, api.ErrUnder)
	refuses(t, "1 . .", 3, api.ErrUnder)
}

// allBut answers sources of values of all kinds but one, which pushes a value each in one step; a box is none of them.
func allBut(kind byte) (all []string) {
	for k, source := range map[byte]string{'i': "1", 's': `"t"`, 'b': "t", 'l': "{ }", 'q': "[ ]"} {
		if k != kind {
			all = append(all, source)
		}
	}
	return all
}

// A box is of no other kind either.
func TestBoxesAreOfNoOtherKind(t *testing.T) {
	for source, used := range map[string]int{"call": 1, "loop": 1, "1 swap dip": 3, "1 swap keep": 3, "[ ] [ ] if": 3, "t swap [ ] if": 4, "t swap [ ] swap if": 5, "[ ] when": 2, "t swap when": 3, "[ ] times": 2, "1 swap times": 3, "[ ] each": 2, "{ } swap each": 3, "[ ] loop": 3} {
		r := trial{items: items(t, source), state: api.State{Stack: values(box(1)), Boxes: boxes(holds(1, flag(true))), Next: 2}}
		r.fails(t, plenty, used, api.ErrKind)
	}
}
