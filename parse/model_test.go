package parse_test

import (
	"fmt"
	"math/rand"
	"slices"
	"strings"
	"testing"

	"quire/api"
	"quire/lex"
	"quire/parse"
)

// The model goes token by token, with the brackets that are open on a list of its own, and tells what comes as tellForms does.

type level struct {
	kind  string // "source", "name", "effect", "in", "out", "body", "[", "{"
	name  string
	sides [2]int
	told  []string
}

type model struct {
	levels []level
	count  int
}

func (m *model) top() *level { return &m.levels[len(m.levels)-1] }

func (m *model) open(kind string) { m.levels = append(m.levels, level{kind: kind}) }

func (m *model) tell(s string) { m.top().told = append(m.top().told, s) }

func (m *model) pop() level {
	l := *m.top()
	m.levels = m.levels[:len(m.levels)-1]
	return l
}

const words = " : ; ( ) -- [ ] { } t f "

func kindOf(token api.Token) string {
	switch {
	case token.Kind == api.TNum:
		return "number"
	case token.Kind == api.TStr:
		return "string"
	case strings.Contains(words, " "+token.Text+" "):
		return token.Text
	}
	return "name"
}

// head goes on in a definition's head.
func (m *model) head(kind string, token api.Token) api.Errno {
	l := m.top()
	switch l.kind + " " + kind {
	case "name name":
		l.kind, l.name = "effect", token.Text
	case "effect (":
		l.kind = "in"
	case "in --":
		l.kind = "out"
	case "out )":
		l.kind = "body"
	case "in name", "out name":
		side := &l.sides[strings.Index("in out", l.kind)/3]
		if *side == api.MaxArgs {
			return api.ErrLarge
		}
		*side++
	default:
		return api.ErrText
	}
	return api.OK
}

// step goes on by a token.
func (m *model) step(token api.Token, definitions bool) api.Errno {
	l, kind := m.top().kind, kindOf(token)
	if strings.Contains(" name effect in out ", " "+l+" ") {
		return m.head(kind, token)
	}
	switch l + " " + kind {
	case "[ ]":
		q := m.pop()
		m.tell("Quot(" + strings.Join(q.told, " ") + ")")
		return api.OK
	case "{ }":
		q := m.pop()
		m.tell("List(" + strings.Join(q.told, " ") + ")")
		return api.OK
	case "body ;":
		d := m.pop()
		m.tell(fmt.Sprintf("true %q {%d %d} (%s) <nil><nil>", d.name, d.sides[0], d.sides[1], strings.Join(d.told, " ")))
		return api.OK
	}
	if !strings.Contains("number string t f [ { name :", kind) || kind == "name" && l == "{" || kind == ":" && (l != "source" || !definitions) {
		return api.ErrText
	}
	m.count++
	if l == "source" {
		m.count = 1
	}
	bracket := strings.Contains("[ { :", kind)
	if m.count > api.MaxSize || bracket && len(m.levels) > api.MaxNest {
		return api.ErrLarge
	}
	if bracket {
		m.open(strings.Replace(kind, ":", "name", 1))
		return api.OK
	}
	m.tell(map[string]string{"t": "api.Bool{true}", "f": "api.Bool{false}", "number": fmt.Sprintf("api.Int{%d}", token.N), "string": fmt.Sprintf("%q", token.Text), "name": fmt.Sprintf("api.Call{%s}", token.Text)}[kind])
	return api.OK
}

func modelOf(s string, definitions bool) (told []string, at int, e api.Errno) {
	tokens, at, e := lex.Tokens(s)
	if e != api.OK {
		return nil, at, e
	}
	m := &model{}
	m.open("source")
	for _, token := range tokens {
		if e := m.step(token, definitions); e != api.OK {
			return nil, token.At, e
		}
	}
	if len(m.levels) > 1 {
		return nil, len(s), api.ErrText
	}
	return m.top().told, 0, api.OK
}

// agrees holds both calls against the model. It tells the first difference only.
func agrees(t *testing.T, s string) api.Errno {
	t.Helper()
	forms, at, e := parse.Parse(s)
	var told []string
	for _, f := range forms {
		if one := tellForm(f); f.Define {
			told = append(told, one)
		} else {
			told = append(told, strings.TrimPrefix(one, `false "" {0 0} () `))
		}
	}
	if want, wantAt, wantE := modelOf(s, true); !slices.Equal(told, want) || at != wantAt || e != wantE {
		t.Fatalf("Parse(%q): %q, %d, %d, want %q, %d, %d", s, told, at, e, want, wantAt, wantE)
	}
	items, at, itemsE := parse.Items(s)
	told = nil
	for _, item := range items {
		told = append(told, tellItem(item))
	}
	if want, wantAt, wantE := modelOf(s, false); !slices.Equal(told, want) || at != wantAt || itemsE != wantE {
		t.Fatalf("Items(%q): %q, %d, %d, want %q, %d, %d", s, told, at, itemsE, want, wantAt, wantE)
	}
	return e
}

// goThrough hands out all rows of at most count pieces behind s.
func goThrough(s string, pieces []string, count int, use func(string)) {
	use(s)
	if count == 0 {
		return
	}
	for _, p := range pieces {
		goThrough(s+p, pieces, count-1, use)
	}
}

var pieces = []string{": ", "; ", "( ", ") ", "-- ", "[ ", "] ", "{ ", "} ", "t ", "a ", "1 ", `"" `}

func TestAllShortSources(t *testing.T) {
	goThrough("", pieces, 4, func(s string) { agrees(t, s) })
}

func TestAllShortEndsOfSources(t *testing.T) {
	for _, head := range []string{": a ", ": a ( b ", ": a ( -- ", ": a ( -- ) ", ": a ( -- ) [ ", "[ { ", "{ [ 1 "} {
		goThrough(head, pieces, 3, func(s string) { agrees(t, s) })
	}
}

// chance writes sources by the grammar, with a fault here and there.
type chance struct {
	*rand.Rand
	out    []string
	faults int // one token of so many is at fault
}

func (c *chance) token(s string) {
	switch n := c.Intn(c.faults); {
	case n == 0:
		s = strings.TrimSpace(pieces[c.Intn(len(pieces))])
	case n == 1 && c.Intn(2) == 0:
		return
	}
	c.out = append(c.out, s)
}

func (c *chance) some(bound int, part func()) {
	for range c.Intn(bound + 1) {
		part()
	}
}

func (c *chance) literal(deep int) {
	switch n := c.Intn(6); {
	case n == 0:
		c.token([]string{"1", "-20", "٣", "−１"}[c.Intn(4)])
	case n == 1:
		c.token([]string{`"a b"`, `""`, `"\n["`}[c.Intn(3)])
	case n == 2 || deep == 0:
		c.token([]string{"t", "f"}[c.Intn(2)])
	case n == 3:
		c.token("{")
		c.some(4, func() { c.literal(deep - 1) })
		c.token("}")
	default:
		c.token("[")
		c.some(4, func() { c.item(deep - 1) })
		c.token("]")
	}
}

func (c *chance) item(deep int) {
	if c.Intn(2) == 0 {
		c.token([]string{"dup", "+", "語", `a"b`, "!a"}[c.Intn(5)])
		return
	}
	c.literal(deep)
}

func (c *chance) form() {
	if c.Intn(2) == 0 {
		c.item(40)
		return
	}
	c.token(":")
	c.token("a")
	c.token("(")
	c.some(api.MaxArgs, func() { c.token("x") })
	c.token("--")
	c.some(2, func() { c.token("y") })
	c.token(")")
	c.some(6, func() { c.item(40) })
	c.token(";")
}

func TestSourcesByChance(t *testing.T) {
	r := rand.New(rand.NewSource(7))
	blanks := []string{" ", "\n", "\t ", "\u3000", " ! ] a\n"}
	good := 0
	for range 20000 {
		c := &chance{Rand: r, faults: 2 + r.Intn(400)}
		c.some(6, c.form)
		var b strings.Builder
		for _, token := range c.out {
			b.WriteString(token + blanks[r.Intn(len(blanks))])
		}
		if agrees(t, b.String()) == api.OK {
			good++
		}
	}
	if good < 4000 || good > 16000 {
		t.Errorf("%d sources of 20000 are without fault", good)
	}
}

// Sources near the limits: of nests, of sizes, of effects.
func TestLargeSourcesByChance(t *testing.T) {
	r := rand.New(rand.NewSource(8))
	near := func(n int) int { return n - 3 + r.Intn(5) }
	good := 0
	for range 600 {
		var b strings.Builder
		for range 1 + r.Intn(2) {
			open := near(api.MaxNest)
			define := r.Intn(2) == 0
			if define {
				b.WriteString(": a ( " + strings.Repeat("x ", near(api.MaxArgs)) + "-- " + strings.Repeat("x ", near(api.MaxArgs)) + ") ")
				open--
			}
			kinds := make([]int, open)
			for i := range kinds {
				kinds[i] = r.Intn(2)
				b.WriteString([]string{"[ ", "{ "}[kinds[i]])
			}
			size := near(api.MaxSize) - api.MaxNest
			split := r.Intn(size)
			b.WriteString(strings.Repeat("1 ", split))
			for _, kind := range slices.Backward(kinds) {
				b.WriteString([]string{"] ", "} "}[kind])
				if kind == kinds[0] && r.Intn(9) == 0 && size > split {
					b.WriteString("1 ")
					size--
				}
			}
			if define {
				b.WriteString(strings.Repeat("1 ", size-split) + "; ")
			}
		}
		if agrees(t, b.String()) == api.OK {
			good++
		}
	}
	if good < 100 || good > 500 {
		t.Errorf("%d sources of 600 are not too large", good)
	}
}
