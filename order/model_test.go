package order_test

import (
	"fmt"
	"math/rand"
	"slices"
	"testing"

	"quire/api"
	"quire/order"
)

// A model that goes by names and sets alone: what is wanted grows till nothing comes any more, circles are found by going as many steps as there are names, and of all orders the first that holds is taken.

type set map[string]bool

func setOf(all []string) set {
	s := set{}
	for _, name := range all {
		s[name] = true
	}
	return s
}

func (s set) rising() (all []string) {
	for name := range s {
		all = append(all, name)
	}
	slices.Sort(all)
	return all
}

// doubled answers whether a name stands twice.
func doubled(all []string) bool { return len(setOf(all)) < len(all) }

// usesIn answers what a name uses, and whether it is in list.
func usesIn(list []api.Vocab, name string) ([]string, bool) {
	for _, v := range list {
		if v.Name == name {
			return v.Uses, true
		}
	}
	return nil, false
}

// faultsTwice answers all names by which ErrTwice may be told.
func faultsTwice(list []api.Vocab) set {
	s := set{}
	for i, v := range list {
		if doubled(v.Uses) {
			s[v.Name] = true
		}
		for _, other := range list[:i] {
			if other.Name == v.Name {
				s[v.Name] = true
			}
		}
	}
	return s
}

func wanted(list []api.Vocab, want, have []string) set {
	there, all := setOf(have), set{}
	for _, name := range want {
		if !there[name] {
			all[name] = true
		}
	}
	for before := -1; before < len(all); {
		before = len(all)
		for _, name := range all.rising() {
			used, _ := usesIn(list, name)
			for _, x := range used {
				if !there[x] {
					all[x] = true
				}
			}
		}
	}
	return all
}

// onCircle answers whether steps within all lead from a name back to it.
func onCircle(list []api.Vocab, all set, name string) bool {
	now := set{name: true}
	for range len(all) {
		next := set{}
		for from := range now {
			used, _ := usesIn(list, from)
			for _, x := range used {
				next[x] = all[x]
			}
		}
		if next[name] {
			return true
		}
		now = set{}
		for x, in := range next {
			if in {
				now[x] = true
			}
		}
	}
	return false
}

// holds answers whether each name of an order stands behind what it uses of it.
func holds(list []api.Vocab, line []string) bool {
	for i, name := range line {
		used, _ := usesIn(list, name)
		for _, x := range used {
			if slices.Index(line, x) > i {
				return false
			}
		}
	}
	return true
}

// first answers the first of all orders of rising names that holds; of two orders the one that has the lesser name where they differ comes first.
func first(list []api.Vocab, line, rest []string) []string {
	if len(rest) == 0 {
		if holds(list, line) {
			return line
		}
		return nil
	}
	for i := range rest {
		more := slices.Concat(rest[:i], rest[i+1:])
		if got := first(list, slices.Concat(line, rest[i:i+1]), more); got != nil {
			return got
		}
	}
	return nil
}

func model(list []api.Vocab, want, have []string) ([]string, string, api.Errno) {
	if s := faultsTwice(list); len(s) > 0 {
		return nil, s.rising()[0], api.ErrTwice
	}
	all := wanted(list, want, have)
	for _, name := range all.rising() {
		if _, there := usesIn(list, name); !there {
			return nil, name, api.ErrNone
		}
	}
	for _, name := range all.rising() {
		if onCircle(list, all, name) {
			return nil, name, api.ErrCycle
		}
	}
	return first(list, nil, all.rising()), "", api.OK
}

// levelOf answers where a name stands, if nothing lies on a circle.
func levelOf(list []api.Vocab, name string) (level int) {
	used, _ := usesIn(list, name)
	for _, x := range used {
		level = max(level, levelOf(list, x)+1)
	}
	return level
}

// fair answers whether levels are those of list: each name stands once, uses one of the level ahead, and none of its own or later.
func fair(list []api.Vocab, levels [][]string) bool {
	n := 0
	for i, level := range levels {
		n += len(level)
		if len(level) == 0 || !slices.IsSorted(level) {
			return false
		}
		for _, name := range level {
			used, there := usesIn(list, name)
			if !there || levelOf(list, name) != i || i == 0 && len(used) > 0 || i > 0 && !slices.ContainsFunc(used, func(x string) bool { return slices.Contains(levels[i-1], x) }) {
				return false
			}
			for _, x := range used {
				if slices.ContainsFunc(levels[i:], func(later []string) bool { return slices.Contains(later, x) }) {
					return false
				}
			}
		}
	}
	return n == len(list)
}

// chance makes lists and what is asked of them.
type chance struct{ *rand.Rand }

func (c chance) some(all []string, n int) (some []string) {
	for range n {
		some = append(some, all[c.Intn(len(all))])
	}
	return some
}

// list answers vocabularies some of which use others; at times one twice, one that is none, or in a circle.
func (c chance) list() []api.Vocab {
	all := names("", "a", "ab", "b", "B", "c", "\xff")
	c.Shuffle(len(all), func(i, j int) { all[i], all[j] = all[j], all[i] })
	n, kind := c.Intn(len(all)+1), c.Intn(8)
	var list []api.Vocab
	for i := range n {
		others := all[:i]
		if kind == 0 || kind == 1 && c.Intn(3) == 0 {
			others = all[:n]
		} else if kind == 2 {
			others = all
		}
		var used []string
		if len(others) > 0 {
			used = c.some(others, c.Intn(4))
		}
		if kind != 3 || c.Intn(4) > 0 {
			used = setOf(used).rising()
			c.Shuffle(len(used), func(i, j int) { used[i], used[j] = used[j], used[i] })
		}
		list = append(list, uses(all[i], used...))
	}
	if kind == 4 && n > 0 {
		list = append(list, uses(all[c.Intn(n)]))
	}
	c.Shuffle(len(list), func(i, j int) { list[i], list[j] = list[j], list[i] })
	return list
}

func TestSortByChance(t *testing.T) {
	c := chance{rand.New(rand.NewSource(15))}
	seen := map[string]int{}
	for range 20000 {
		list := c.list()
		var all []string
		for _, v := range list {
			all = append(all, v.Name)
		}
		asked := append(all, "a", "q")
		want, have := c.some(asked, c.Intn(5)), c.some(asked, max(0, c.Intn(6)-3))
		if c.Intn(3) == 0 {
			want = all
		}
		got, which, e := order.Sort(list, want, have)
		out, name, err := model(list, want, have)
		seen[fmt.Sprint(e, " ", len(got))]++
		if !slices.Equal(got, out) || which != name || e != err {
			t.Fatalf("Sort of %q for %q with %q: %q, %q, %d, want %q, %q, %d", list, want, have, got, which, e, out, name, err)
		}
	}
	for _, what := range []string{"0 0", "0 1", "0 2", "0 3", "0 4", "0 5", "0 6", "0 7", "6 0", "14 0", "15 0"} {
		if seen[what] < 100 {
			t.Errorf("%s came %d times: %v", what, seen[what], seen)
		}
	}
}

func TestLevelsByChance(t *testing.T) {
	c := chance{rand.New(rand.NewSource(152))}
	seen := map[string]int{}
	for range 20000 {
		list := c.list()
		var all []string
		for _, v := range list {
			all = append(all, v.Name)
		}
		got, e := order.Levels(list)
		_, _, err := model(list, all, nil)
		seen[fmt.Sprint(e, " ", len(got))]++
		if e != err || e == api.OK && !fair(list, got) || e != api.OK && len(got) > 0 {
			t.Fatalf("Levels of %q: %q, %d, want %d", list, got, e, err)
		}
	}
	for _, what := range []string{"0 0", "0 1", "0 2", "0 3", "0 4", "0 5", "6 0", "14 0", "15 0"} {
		if seen[what] < 100 {
			t.Errorf("%s came %d times: %v", what, seen[what], seen)
		}
	}
}
