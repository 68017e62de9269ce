package interp_test

import (
	"fmt"
	"strings"
	"testing"

	"quire/api"
	"quire/interp"
)

// R4: memory

// roomy answers values with spare room, in which one list stands several times.
func roomy() []api.Value {
	one := append(make([]api.Value, 0, 5), num(1), str("two"))
	code := append(make([]api.Item, 0, 6), push(api.List{Items: one}), call("drop"))
	pair := append(make([]api.Value, 0, 9), api.List{Items: one}, list(api.List{Items: one}, api.Quot{Items: code}))
	whole := append(make([]api.Value, 0, 7), api.List{Items: pair}, api.Quot{Items: code}, api.List{Items: one}, api.List{Items: one})
	for _, spare := range [][]api.Value{one[2:5], pair[2:9], whole[4:7]} {
		for i := range spare {
			spare[i] = str("spare")
		}
	}
	for i := range code[2:6] {
		code[:6][2+i] = call("spare")
	}
	return whole
}

// rich answers a trial whose words, items and state hold the same lists, and which uses all of them.
func rich(t *testing.T, source string) trial {
	shared := roomy()
	spare := call("spare")
	room := append(make([]api.Item, 0, 40), push(shared[0]), push(shared[1]), push(shared[0]))
	room = append(append(room, items(t, source)...), spare)
	body := append(make([]api.Item, 0, 9), push(shared[1]), call("call"), push(shared[2]), spare)
	held := append(make([]api.Content, 0, 5), holds(1, shared[0]), holds(3, shared[1]), holds(9, str("spare")))
	words := append(make([]api.Def, 0, 4), api.Def{Name: "aa", Body: body[:3]}, api.Def{Name: "bb", Body: body[:3]}, api.Def{Name: "spare"})
	stack := append(shared, box(1), box(3))
	return trial{words: words[:2], items: room[:len(room)-1], state: api.State{Stack: stack, Boxes: held[:2], Next: 4}}
}

func richTrials(t *testing.T) []trial {
	var all []trial
	for _, source := range []string{
		"", "aa bb aa", "dup swap over rot nip tuck", "[ aa ] dip", "[ aa ] keep", "dup [ drop ] each", "unpair append wrap", "over call",
		"drop dup compose", "swap curry dup call", "box dup dup get swap put", "box box box", "drop drop drop drop get", "drop drop drop get dup call",
		"5 [ aa ] times", "[ aa f ] loop", "t [ aa ] when", "f [ bb ] [ aa ] if", "dup . aa .", "reverse pair",
	} {
		all = append(all, rich(t, source))
	}
	return append(all, trial{words: rich(t, "").words, items: rich(t, "+").items, state: rich(t, "").state},
		trial{items: []api.Item{nil}, state: rich(t, "").state}, trial{items: rich(t, "").items, state: api.State{Stack: roomy(), Boxes: boxes(holds(1, list(nil)))}})
}

// tellRoom tells a value with the spare room of its lists.
func tellRoom(v api.Value) string {
	switch x := v.(type) {
	case api.List:
		var parts []string
		for _, v := range x.Items[:cap(x.Items)] {
			parts = append(parts, tellRoom(v))
		}
		return fmt.Sprint("List ", len(x.Items), "(", strings.Join(parts, " "), ")")
	case api.Quot:
		return fmt.Sprint("Quot ", len(x.Items), "(", tellCode(x.Items), ")")
	}
	return tell(v)
}

func tellCode(items []api.Item) string {
	var parts []string
	for _, item := range items[:cap(items)] {
		if p, ok := item.(api.Push); ok {
			parts = append(parts, "Push "+tellRoom(p.V))
			continue
		}
		parts = append(parts, tellItem(item))
	}
	return strings.Join(parts, " ")
}

func roomOfState(s api.State) string {
	told := fmt.Sprint(len(s.Stack), tellRoom(api.List{Items: s.Stack}), s.Next, len(s.Boxes))
	for _, c := range s.Boxes[:cap(s.Boxes)] {
		told += fmt.Sprint(c.N, tellRoom(c.V))
	}
	return told
}

// room tells all of a trial with spare room.
func (r trial) room() string {
	told := fmt.Sprint(len(r.words), len(r.items), tellCode(r.items), roomOfState(r.state))
	for _, word := range r.words[:cap(r.words)] {
		told += fmt.Sprint(word.Name, word.Effect, len(word.Body), tellCode(word.Body))
	}
	return told
}

// spoil writes over all lists of a value, spare room included, from the innermost on.
func spoil(v api.Value) {
	switch x := v.(type) {
	case api.List:
		spoilAll(x.Items)
	case api.Quot:
		spoilItems(x.Items)
	}
}

func spoilAll(list []api.Value) {
	for _, v := range list {
		spoil(v)
	}
	all := list[:cap(list)]
	for i := range all {
		all[i] = str("spoilt")
	}
}

func spoilItems(items []api.Item) {
	for _, item := range items {
		if p, ok := item.(api.Push); ok {
			spoil(p.V)
		}
	}
	all := items[:cap(items)]
	for i := range all {
		all[i] = call("spoilt")
	}
}

func spoilState(s api.State) {
	spoilAll(s.Stack)
	for _, c := range s.Boxes {
		spoil(c.V)
	}
	all := s.Boxes[:cap(s.Boxes)]
	for i := range all {
		all[i] = holds(-1, str("spoilt"))
	}
}

func (r trial) spoil() {
	spoilState(r.state)
	spoilItems(r.items)
	for _, word := range r.words {
		spoilItems(word.Body)
	}
	for i := range r.words {
		r.words[i] = api.Def{}
	}
}

// seen is the places at which parts of lists stand, spare room included.
type seen map[any]int

// row gathers the places of a list, and answers whether one of them was there before.
func row[T any](s seen, list []T) (again bool) {
	all := list[:cap(list)]
	for i := range all {
		s[&all[i]]++
		again = again || s[&all[i]] > 1
	}
	return again
}

func (s seen) value(v api.Value) (again bool) {
	switch x := v.(type) {
	case api.List:
		again = row(s, x.Items)
		for _, v := range x.Items {
			again = s.value(v) || again
		}
	case api.Quot:
		again = s.items(x.Items)
	}
	return again
}

func (s seen) items(items []api.Item) (again bool) {
	again = row(s, items)
	for _, item := range items {
		if p, ok := item.(api.Push); ok {
			again = s.value(p.V) || again
		}
	}
	return again
}

func (s seen) state(x api.State) (again bool) {
	again = s.value(api.List{Items: x.Stack})
	again = row(s, x.Boxes) || again
	for _, c := range x.Boxes {
		again = s.value(c.V) || again
	}
	return again
}

func (s seen) trial(r trial) {
	s.state(r.state)
	s.items(r.items)
	for _, word := range r.words {
		s.items(word.Body)
	}
}

func TestWhatIsHandedInStays(t *testing.T) {
	gone := 0
	for _, r := range richTrials(t) {
		before := r.room()
		s, _, _, e := interp.Run(r.words, r.items, r.state, plenty)
		if r.room() != before {
			t.Errorf("%v has changed what was handed in", r)
		}
		spoilState(s)
		if r.room() != before {
			t.Errorf("what %v leaves is what was handed in", r)
		}
		s, _ = interp.Trim(r.state)
		interp.Check(r.state)
		spoilState(s)
		if r.room() != before {
			t.Errorf("Trim or Check of the state of %v has changed it", r)
		}
		if e == api.OK {
			gone++
		}
	}
	if gone < 20 {
		t.Errorf("%d trials went through", gone)
	}
}

func TestWhatIsAnsweredSharesNothing(t *testing.T) {
	for k, r := range richTrials(t) {
		places := seen{}
		places.trial(r)
		first, _, _, _ := interp.Run(r.words, r.items, r.state, plenty)
		second, _, _, _ := interp.Run(r.words, r.items, r.state, plenty)
		third, _ := interp.Trim(r.state)
		fourth, _ := interp.Trim(r.state)
		told := []string{tellState(first), tellState(second), tellState(third), tellState(fourth)}
		for i, s := range []api.State{first, second, third, fourth} {
			if places.state(s) {
				t.Errorf("trial %d: a list of answer %d is another's, too", k, i)
			}
		}
		r.spoil()
		for i, s := range []api.State{first, second, third, fourth} {
			if tellState(s) != told[i] {
				t.Errorf("trial %d: answer %d changes with what was handed in, or with another", k, i)
			}
			spoilState(s)
		}
	}
}

// Trim leaves new memory, be there boxes that go or not.
func TestTrimSharesNothing(t *testing.T) {
	shared := roomy()
	s := api.State{Stack: append(shared, box(2)), Boxes: boxes(holds(1, shared[0]), holds(2, list(shared[1], box(5))), holds(4, nil), holds(5, shared[2])), Next: 6}
	before := roomOfState(s)
	places := seen{}
	places.state(s)
	for range 2 {
		got, e := interp.Trim(s)
		if e != api.OK || len(got.Boxes) != 2 || places.state(got) {
			t.Errorf("Trim: %s, %d", tellState(got), e)
		}
		spoilState(got)
		if roomOfState(s) != before {
			t.Errorf("Trim has changed what was handed in")
		}
	}
}

// R5: nothing of a run is seen in the next

func TestNothingIsKept(t *testing.T) {
	for range 3 {
		gives(t, "3 sq", "9", 4, word(t, "sq", "dup *"))
		refuses(t, "3 sq", 2, api.ErrName)
		try(t, "1 box 2 box drop .").leaves(t, only(3), "box ", 6)
		refuses(t, "1 box get get", 4, api.ErrKind)
		refuses(t, "aa", 128, api.ErrDeep, word(t, "aa", "aa"))
		tells(t, "1 .", "1 ", 2)
		trial{items: []api.Item{nil}, state: only(1)}.refused(t)
	}
}
