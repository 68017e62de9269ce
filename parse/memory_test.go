package parse_test

import (
	"fmt"
	"slices"
	"strings"
	"testing"

	"quire/api"
	"quire/parse"
)

const nestedSource = `: a ( x -- ) 1 [ b [ c ] { 1 { 2 } 3 } ] { } { [ ] [ d e f ] "s" } g h ; [ 1 2 [ 3 ] 4 5 ] { 6 7 { 8 } 9 } : b ( -- ) c d e ; f`

// marks writes over the spare room of each list in an answer, with a mark of its own each, and sees whether all marks are still there.
type marks struct{ checks []func() bool }

func (m *marks) name() string { return fmt.Sprint("mark ", len(m.checks)) }

func markSpare[T comparable](m *marks, list []T, mark T) {
	spare := list[len(list):cap(list)]
	for i := range spare {
		spare[i] = mark
	}
	m.checks = append(m.checks, func() bool {
		return !slices.ContainsFunc(spare, func(x T) bool { return x != mark })
	})
}

func (m *marks) items(list []api.Item) {
	markSpare(m, list, call(m.name()))
	for _, item := range list {
		if p, ok := item.(api.Push); ok {
			m.value(p.V)
		}
	}
}

func (m *marks) values(list []api.Value) {
	markSpare(m, list, str(m.name()))
	for _, v := range list {
		m.value(v)
	}
}

func (m *marks) value(v api.Value) {
	switch x := v.(type) {
	case api.List:
		m.values(x.Items)
	case api.Quot:
		m.items(x.Items)
	}
}

func (m *marks) forms(list []api.Form) {
	for _, f := range list {
		m.items(f.Def.Body)
		if p, ok := f.Item.(api.Push); ok {
			m.value(p.V)
		}
	}
	spare := list[len(list):cap(list)]
	for i := range spare {
		spare[i] = api.Form{Define: true}
	}
}

func (m *marks) hold(t *testing.T) {
	t.Helper()
	for i, check := range m.checks {
		if !check() {
			t.Errorf("the list %d shares its spare room", i)
		}
	}
}

// R4, R5

func TestAnswersShareNothing(t *testing.T) {
	first, _, _ := parse.Parse(nestedSource)
	second, _, _ := parse.Parse(nestedSource)
	told := tellForms(second)
	m := &marks{}
	m.forms(first)
	m.forms(second)
	m.hold(t)
	if tellForms(first) != told || tellForms(second) != told {
		t.Errorf("what stands in a list changes with another's spare room")
	}
	scribble(first)
	if tellForms(second) != told {
		t.Errorf("two answers share a list")
	}
	parses(t, nestedSource, second...)
}

// scribble writes over all lists of forms, from the innermost on.
func scribble(list []api.Form) {
	for i, f := range list {
		scribbleItems(f.Def.Body)
		scribbleItems(items(f.Item))
		list[i] = api.Form{Item: call("x")}
	}
}

func scribbleItems(list []api.Item) {
	for i, item := range list {
		if p, ok := item.(api.Push); ok {
			scribbleValue(p.V)
		}
		list[i] = call("x")
	}
}

func scribbleValue(v api.Value) {
	switch x := v.(type) {
	case api.Quot:
		scribbleItems(x.Items)
	case api.List:
		for i, v := range x.Items {
			scribbleValue(v)
			x.Items[i] = str("x")
		}
	}
}

func TestItemsShareNothing(t *testing.T) {
	const s = `[ 1 2 [ 3 ] 4 5 ] { 6 7 { 8 } 9 } a [ ] { }`
	first, _, _ := parse.Items(s)
	second, _, _ := parse.Items(s)
	told := tellItems(second)
	m := &marks{}
	m.items(first)
	m.items(second)
	m.hold(t)
	scribbleItems(first)
	if tellItems(second) != told {
		t.Errorf("two answers share a list")
	}
	reads(t, s, second...)
}

// What is handed in stays as it is, its spare room too.
func TestWhatIsHandedInStays(t *testing.T) {
	list, _, _ := parse.Parse(nestedSource)
	m := &marks{}
	m.forms(list)
	told := tellForms(list[:cap(list)])
	want := strings.ReplaceAll(nestedSource, "; ", ";\n")
	want = strings.ReplaceAll(want, "5 ] {", "5 ]\n{")
	want = strings.ReplaceAll(want, "9 } :", "9 }\n:")
	writesSource(t, want+"\n", list...)
	for _, f := range list {
		if _, e := parse.Text(f.Def.Body); e != api.OK {
			t.Errorf("Text: %d", e)
		}
	}
	m.hold(t)
	if tellForms(list[:cap(list)]) != told {
		t.Errorf("the forms have changed")
	}
}

// What a call refuses leaves nothing behind for the next.
func TestNothingIsKept(t *testing.T) {
	for range 3 {
		refuses(t, strings.Repeat("[ ", api.MaxNest+1), 2*api.MaxNest, api.ErrLarge)
		refusesParse(t, ": a ( -- ) "+strings.Repeat("b ", most+1), 11+2*most, api.ErrLarge)
		acceptsItems(t, strings.Repeat("[ ", api.MaxNest)+strings.Repeat("] ", api.MaxNest))
		refusesText(t, api.ErrForm, nil)
		writes(t, "a", call("a"))
	}
}
