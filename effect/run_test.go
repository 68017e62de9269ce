package effect_test

import (
	"math/rand"
	"testing"

	"quire/api"
	"quire/effect"
)

// machine carries items out, with flags, numbers, lists and ends of loops by chance. Of the values it keeps but which quotation each is, if it is one.
type machine struct {
	*rand.Rand
	words map[string]api.Effect
	stack []api.Value
	under bool // there were too few values
	left  int  // steps
}

func (m *machine) pop() api.Value {
	if len(m.stack) == 0 {
		m.under = true
		return nil
	}
	top := m.stack[len(m.stack)-1]
	m.stack = m.stack[:len(m.stack)-1]
	return top
}

func (m *machine) push(list ...api.Value) { m.stack = append(m.stack, list...) }

func (m *machine) run(list []api.Item) {
	for _, item := range list {
		m.left--
		if m.under || m.left < 0 {
			return
		}
		switch x := item.(type) {
		case api.Push:
			m.push(x.V)
		case api.Call:
			m.word(x.Name)
		}
	}
}

func (m *machine) quot() []api.Item {
	q, ok := m.pop().(api.Quot)
	m.under = m.under || !ok
	return q.Items
}

func (m *machine) word(name string) {
	switch name {
	case "call":
		m.run(m.quot())
	case "dip":
		q, x := m.quot(), m.pop()
		m.run(q)
		m.push(x)
	case "keep":
		q, x := m.quot(), m.pop()
		m.push(x)
		m.run(q)
		m.push(x)
	case "if":
		no, yes := m.quot(), m.quot()
		m.pop()
		m.run([][]api.Item{yes, no}[m.Intn(2)])
	case "when":
		m.repeat(m.Intn(2), false)
	case "times":
		m.repeat(m.Intn(4), false)
	case "each":
		m.repeat(m.Intn(4), true)
	case "loop":
		q := m.quot()
		for again := true; again && !m.under && m.left > 0; again = m.Intn(2) == 0 {
			m.run(q)
			m.pop()
		}
	default:
		m.plain(name)
	}
}

func (m *machine) repeat(n int, values bool) {
	q := m.quot()
	m.pop()
	for range n {
		if values {
			m.push(num(7))
		}
		m.run(q)
	}
}

func (m *machine) plain(name string) {
	x, ok := effect.Prim(name)
	if !ok {
		x = m.words[name]
	}
	taken := make([]api.Value, x.In)
	for i := range taken {
		taken[len(taken)-1-i] = m.pop()
	}
	switch name {
	case "dup":
		m.push(taken[0], taken[0])
	case "swap":
		m.push(taken[1], taken[0])
	case "over":
		m.push(taken[0], taken[1], taken[0])
	case "rot":
		m.push(taken[1], taken[2], taken[0])
	case "nip":
		m.push(taken[1])
	case "tuck":
		m.push(taken[1], taken[0], taken[1])
	default:
		for range x.Out {
			m.push(num(7))
		}
	}
}

// What an effect is for: on a stack of just In values, whatever way is gone, there are never too few, each quotation that is called is one, and Out are left.
func TestEffectsHoldWhenCarriedOut(t *testing.T) {
	m := maker{rand.New(rand.NewSource(23))}
	words := map[string]api.Effect{}
	for _, w := range some() {
		if _, ok := words[w.Name]; !ok {
			words[w.Name] = w.Effect
		}
	}
	fit, ended := 0, 0
	for range 20000 {
		list := m.source(m.Intn(4), 1+m.Intn(8))
		x, e := effect.Of(list, some())
		if e != api.OK {
			continue
		}
		fit++
		for range 8 {
			r := &machine{Rand: m.Rand, words: words, stack: make([]api.Value, x.In), left: 20000}
			for i := range r.stack {
				r.stack[i] = num(1)
			}
			r.run(list)
			if r.left < 0 {
				continue
			}
			ended++
			if r.under || len(r.stack) != x.Out {
				t.Fatalf("Of(%v): %v, but %d are left (too few: %t)", list, x, len(r.stack), r.under)
			}
		}
	}
	if fit < 5000 || ended < 7*fit {
		t.Errorf("%d have an effect, and few came to an end: %d of %d", fit, ended, 8*fit)
	}
}
