package value_test

import (
	"math/rand"
	"slices"
	"strconv"
	"strings"
	"testing"

	"quire/api"
	"quire/lex"
	"quire/parse"
	"quire/value"
)

// made is a value and all that is to be told of it, written down as it is made.
type made struct {
	v           api.Value
	size, depth int
	words       []string
	boxes       []int
}

type maker struct{ *rand.Rand }

// alone makes a value that holds no others.
func (m maker) alone(boxes bool) made {
	switch n := m.Intn(5); {
	case n == 0 && boxes:
		n := 1 + m.Intn(api.MaxBoxes)>>m.Intn(20)
		return made{box(n), 1, 0, []string{"box"}, []int{n}}
	case n < 2:
		n := m.Int63()>>m.Intn(64)&api.MaxInt - m.Int63()>>m.Intn(64)&api.MaxInt
		return made{num(n), 1, 0, []string{strconv.FormatInt(n, 10)}, nil}
	case n == 2:
		return made{flag(true), 1, 0, []string{"t"}, nil}
	case n == 3:
		return made{flag(false), 1, 0, []string{"f"}, nil}
	}
	var b strings.Builder
	for range m.Intn(6) {
		b.WriteString([]string{"a", " ", "\n", `"`, `\`, "語", "]", "!", "\x00", "\ufffd"}[m.Intn(10)])
	}
	quoted, _ := lex.Quoted(b.String())
	return made{str(b.String()), 1, 0, []string{quoted}, nil}
}

// with puts what was made within another behind what that holds.
func (a *made) with(part made) {
	a.size += part.size
	a.depth = max(a.depth, part.depth+1)
	a.words = append(a.words, part.words...)
	a.boxes = append(a.boxes, part.boxes...)
}

func (m maker) value(deep, wide int, boxes bool) made {
	if deep == 0 || m.Intn(3) == 0 {
		return m.alone(boxes)
	}
	whole := made{size: 1, depth: 1}
	if m.Intn(2) == 0 {
		whole.words = []string{"{"}
		var l []api.Value
		for range m.Intn(wide + 1) {
			part := m.value(deep-1, wide, boxes)
			whole.with(part)
			l = append(l, part.v)
		}
		whole.v, whole.words = api.List{Items: l}, append(whole.words, "}")
		return whole
	}
	whole.words = []string{"["}
	var l []api.Item
	for range m.Intn(wide + 1) {
		if m.Intn(3) == 0 {
			name := []string{"dup", "+", "語", "!!", "1a", `x"`, "--1", "box", "T"}[m.Intn(9)]
			whole.with(made{size: 1, words: []string{name}})
			l = append(l, call(name))
			continue
		}
		part := m.value(deep-1, wide, boxes)
		whole.with(part)
		l = append(l, push(part.v))
	}
	whole.v, whole.words = api.Quot{Items: l}, append(whole.words, "]")
	return whole
}

func TestValuesByChance(t *testing.T) {
	m := maker{rand.New(rand.NewSource(11))}
	kinds := map[bool]int{}
	for range 20000 {
		a := m.value(m.Intn(6), 1+m.Intn(5), true)
		if a.size <= api.MaxSize && a.depth <= api.MaxNest {
			is(t, a.v, a.size, a.depth, strings.Join(a.words, " "), a.boxes...)
		} else {
			refused(t, a.v)
		}
		kinds[a.size > 1]++
	}
	if kinds[true] < 5000 {
		t.Errorf("few values hold others: %v", kinds)
	}
}

// Values around the limits of size and of depth.
func TestLargeValuesByChance(t *testing.T) {
	m := maker{rand.New(rand.NewSource(12))}
	kinds := map[bool]int{}
	for range 400 {
		var whole made
		for whole.size < api.MaxSize-40 {
			whole = made{size: 1, depth: 1, words: []string{"{"}}
			var l []api.Value
			for whole.size < api.MaxSize-10 {
				part := m.value(4, 4, true)
				whole.with(part)
				l = append(l, part.v)
			}
			whole.v, whole.words = api.List{Items: l}, append(whole.words, "}")
		}
		for range m.Intn(api.MaxNest) {
			around := made{size: 1, depth: 1, words: []string{"["}}
			around.with(whole)
			around.v, around.words = quot(push(whole.v)), append(around.words, "]")
			whole = around
		}
		fits := whole.size <= api.MaxSize && whole.depth <= api.MaxNest
		kinds[fits]++
		if fits {
			is(t, whole.v, whole.size, whole.depth, strings.Join(whole.words, " "), whole.boxes...)
		} else {
			refused(t, whole.v)
		}
	}
	if kinds[true] < 40 || kinds[false] < 40 {
		t.Errorf("values that fit, and not: %v", kinds)
	}
}

// Two values are equal, if they are told alike.
func TestEqualByChance(t *testing.T) {
	m := maker{rand.New(rand.NewSource(13))}
	equal := 0
	for range 100 {
		var all []api.Value
		for range 30 {
			all = append(all, m.value(2, 2, true).v)
		}
		for _, a := range all {
			for _, b := range all {
				want := tell(a) == tell(b)
				if same, e := value.Equal(a, b); same != want || e != api.OK {
					t.Fatalf("Equal(%s, %s): %t, %d", tell(a), tell(b), same, e)
				}
				if want {
					equal++
				}
			}
		}
	}
	if equal < 100*40 {
		t.Errorf("few are equal: %d", equal)
	}
}

// changed answers a value with one part, chosen by chance, in whose place another stands. Nothing is shared with v.
func (m maker) changed(v, other api.Value) api.Value {
	switch x := v.(type) {
	case api.List:
		if len(x.Items) > 0 && m.Intn(5) > 0 {
			l := slices.Clone(x.Items)
			i := m.Intn(len(l))
			l[i] = m.changed(l[i], other)
			return api.List{Items: l}
		}
	case api.Quot:
		if len(x.Items) > 0 && m.Intn(5) > 0 {
			l := slices.Clone(x.Items)
			i := m.Intn(len(l))
			l[i] = push(other)
			if p, ok := x.Items[i].(api.Push); ok {
				l[i] = push(m.changed(p.V, other))
			}
			return api.Quot{Items: l}
		}
	}
	return other
}

// One part that is not sound is enough; one part that is another makes another value.
func TestOnePartByChance(t *testing.T) {
	m := maker{rand.New(rand.NewSource(14))}
	wrong := []api.Value{nil, &api.Int{}, num(api.MaxInt + 1), num(api.MinInt - 1), str("\xff"), box(0), box(api.MaxBoxes + 1), &api.List{}, quot(nil), quot(call("t")), quot(call("12")), falseInt{}}
	for range 5000 {
		v := m.value(5, 4, true).v
		refused(t, m.changed(v, wrong[m.Intn(len(wrong))]))
		other := m.changed(v, str("no such text stands there"))
		if same, e := value.Equal(v, other); same || e != api.OK {
			t.Errorf("Equal(%s, %s): %t, %d", tell(v), tell(other), same, e)
		}
	}
}

// Values without boxes have the text that a source has of them, and are read back from it.
func TestTextIsThatOfASource(t *testing.T) {
	m := maker{rand.New(rand.NewSource(15))}
	for range 5000 {
		v := m.value(5, 4, false).v
		s, e := value.Text(v)
		want, f := parse.Text(items(push(v)))
		if s != want || e != api.OK || f != api.OK {
			t.Errorf("Text(%s): %q, %d, want %q, %d", tell(v), s, e, want, f)
		}
		back, at, f := parse.Items(s)
		if f != api.OK || len(back) != 1 {
			t.Fatalf("Items(%q): %d items, %d, %d", s, len(back), at, f)
		}
		if same, e := value.Equal(back[0].(api.Push).V, v); !same || e != api.OK {
			t.Errorf("Equal(%s, %s): %t, %d", tellItem(back[0]), tell(v), same, e)
		}
	}
}

// Items are sound together, if the reader of sources takes them within brackets.
func TestCheckItemsByChance(t *testing.T) {
	m := maker{rand.New(rand.NewSource(16))}
	for range 3000 {
		var list []api.Item
		for range m.Intn(6) {
			list = append(list, push(m.value(4, 4, false).v))
			if m.Intn(2) == 0 {
				list = append(list, call([]string{"a", "t", "1", "語", "(", "!"}[m.Intn(6)]))
			}
		}
		want := api.OK
		if _, e := parse.Text(list); e != api.OK {
			want = api.ErrForm
		}
		checksItems(t, want, list...)
	}
}
