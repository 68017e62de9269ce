package interp_test

import (
	"slices"
	"strings"
	"testing"

	"quire/api"
)

// P13.2, R1, R3: what is not sound is refused ahead of the first step

// badNames are none that an item may call.
func badNames() []string {
	return []string{"", "5", "-7", "٣", ":", ";", "(", ")", "--", "[", "]", "{", "}", "t", "f", "a b", " a", "a\n", `"a"`, `"`, "!", "a\x7f", "\ufffd", "a\u00a0b", "\xff", "a\xc3", strings.Repeat("a", api.MaxName+1)}
}

// goodNames may be called.
func goodNames() []string {
	return []string{"a", "dup", ".", "-", "--a", "tt", "é", "[a", "a:", "5a", `a"`, "!!", "1٣", strings.Repeat("é", api.MaxName)}
}

// badValues may not stand in code: what is not sound, and what a box stands in.
func badValues() []api.Value {
	return append(unsound(), box(1), box(api.MaxBoxes), list(box(1)), list(num(1), list(list(box(2)))), quot(push(box(1))), quot(call("a"), push(list(num(1), quot(push(box(1)))))))
}

func badItems() []api.Item {
	all := []api.Item{nil, &api.Push{V: num(1)}, &api.Call{Name: "dup"}, (*api.Push)(nil), (*api.Call)(nil)}
	for _, v := range badValues() {
		all = append(all, push(v))
	}
	for _, name := range badNames() {
		all = append(all, call(name))
	}
	return all
}

// within answers a bad item alone, and at each end of good ones.
func within(bad api.Item) [][]api.Item {
	good := []api.Item{push(num(1)), call("foo"), call("+")}
	return [][]api.Item{{bad}, append([]api.Item{bad}, good...), append(slices.Clip(good), bad)}
}

// refused holds that a run is refused, with any fuel, be the rest as it is.
func (r trial) refused(t *testing.T) {
	t.Helper()
	for _, fuel := range []int{-1, 0, 1, plenty} {
		r.fails(t, fuel, 0, api.ErrForm)
	}
}

// holding is a state in which the boxes 1 and 2 are reached.
func holding() api.State {
	return api.State{Stack: values(box(1), num(5)), Boxes: boxes(holds(1, box(2)), holds(2, num(7))), Next: 3}
}

func TestBadItems(t *testing.T) {
	for _, bad := range badItems() {
		for _, code := range within(bad) {
			trial{items: code, state: only(1)}.refused(t)
			trial{items: code, state: holding()}.refused(t)
			trial{items: []api.Item{push(num(1)), push(quot(code...))}, state: only(1)}.refused(t)
		}
	}
}

func TestBadBodies(t *testing.T) {
	for _, bad := range badItems() {
		for _, body := range within(bad) {
			for _, words := range [][]api.Def{
				{{Name: "a", Body: body}},
				{{Name: "a"}, {Name: "b", Body: body}},
				{{Name: "a", Body: body}, {Name: "a"}},
				{{Name: "a"}, {Name: "a", Body: body}},
				{{Name: "dup", Body: body}},
			} {
				trial{words: words, items: items(t, "1 dup"), state: only(1)}.refused(t)
				trial{words: words, state: holding()}.refused(t)
			}
		}
	}
}

func TestBadNames(t *testing.T) {
	for _, name := range badNames() {
		for _, words := range [][]api.Def{{{Name: name}}, {{Name: "a"}, {Name: name, Body: items(t, "1")}}, {{Name: name}, {Name: "a"}}} {
			trial{words: words, items: items(t, "1 dup"), state: only(1)}.refused(t)
		}
	}
	for _, name := range goodNames() {
		r := trial{words: defs(word(t, name, `"mine"`)), items: []api.Item{push(list(quot(call(name))))}, state: only(1)}
		r.leaves(t, only(1, list(quot(call(name)))), "", 1)
	}
}

func TestBadStates(t *testing.T) {
	for _, s := range neverSound() {
		trial{state: s}.refused(t)
		trial{words: defs(word(t, "a", "1")), items: items(t, "a +"), state: s}.refused(t)
	}
	for _, both := range onlyTrimmed() {
		trial{items: items(t, "1 ."), state: both[0]}.refused(t)
	}
}

// Effects of words do not matter to a run.
func TestEffectsDoNotMatter(t *testing.T) {
	for _, x := range []api.Effect{{}, {In: -1, Out: 99}, {In: 1 << 40, Out: -1 << 40}} {
		r := try(t, "aa", api.Def{Name: "aa", Effect: x, Body: items(t, "1 2")})
		r.leaves(t, only(1, num(1), num(2)), "", 3)
	}
}

// Items of a run are sound one by one; those of a body are as those of a quotation.
func TestHowLargeCodeMayBe(t *testing.T) {
	largest := []api.Value{listOf(api.MaxSize), quotOf(api.MaxSize), nested(api.MaxNest, num(1))}
	for _, v := range largest {
		trial{items: []api.Item{push(v), push(v)}, state: only(1)}.leaves(t, only(1, v, v), "", 2)
		trial{words: defs(api.Def{Name: "aa", Body: []api.Item{push(v)}}), state: only(1)}.refused(t)
	}
	for _, v := range []api.Value{listOf(api.MaxSize + 1), quotOf(api.MaxSize + 1), nested(api.MaxNest+1, num(1))} {
		trial{items: []api.Item{push(v)}, state: only(1)}.refused(t)
	}
	for _, v := range []api.Value{listOf(api.MaxSize - 1), quotOf(api.MaxSize - 1), nested(api.MaxNest-1, num(1))} {
		r := trial{words: defs(api.Def{Name: "aa", Body: []api.Item{push(v)}}), items: []api.Item{call("aa")}, state: only(1)}
		r.leaves(t, only(1, v), "", 2)
	}
	body := slices.Repeat([]api.Item{push(num(1)), call("drop"), push(num(2)), call("drop")}, api.MaxSize/4)
	trial{words: defs(api.Def{Name: "aa", Body: body[1:]}), items: items(t, "0 aa"), state: only(1)}.leaves(t, only(1), "", api.MaxSize+1)
	trial{words: defs(api.Def{Name: "aa", Body: body}), items: items(t, "0 aa"), state: only(1)}.refused(t)
}

// There is no bound to the items of a run, nor to the words, but the fuel.
func TestVeryManyItemsAndWords(t *testing.T) {
	code := slices.Repeat([]api.Item{push(num(1)), call("drop")}, 40000)
	trial{items: code, state: only(1)}.fails(t, api.MaxFuel, api.MaxFuel, api.ErrFuel)
	trial{items: append(slices.Clip(code), nil), state: only(1)}.refused(t)
	var words []api.Def
	for i := range api.MaxWords + 100 {
		words = append(words, api.Def{Name: "w" + strings.Repeat("x", i%30) + string(rune('a'+i/30)), Body: []api.Item{push(num(int64(i)))}})
	}
	for _, i := range []int{0, 1, api.MaxWords - 1, api.MaxWords, len(words) - 1} {
		r := trial{words: words, items: []api.Item{call(words[i].Name)}, state: only(1)}
		r.leaves(t, only(1, num(int64(i))), "", 2)
	}
}
