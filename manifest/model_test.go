package manifest_test

import (
	"math/rand"
	"regexp"
	"strings"
	"testing"

	"quire/api"
	"quire/lex"
	"quire/manifest"
	"quire/parse"
)

// A model that cuts a text into all its lines at first, and goes through them with a word for where it is.

var (
	head = regexp.MustCompile(`^vocab ([^ ]+)$`)
	used = regexp.MustCompile(`^uses( [^ ]+)+$`)
)

// step answers where the model is behind a line, or nothing, if that can't stand there.
func step(where, line string, list *[]api.Manifest) string {
	if where == "between" {
		name := head.FindStringSubmatch(line)
		if name == nil || !lex.Name(name[1]) {
			return ""
		}
		*list = append(*list, vocab(name[1]))
		return "first"
	}
	m := &(*list)[len(*list)-1]
	if where == "first" && used.MatchString(line) {
		for _, name := range strings.Split(line, " ")[1:] {
			if !lex.Name(name) {
				return ""
			}
			m.Uses = append(m.Uses, name)
		}
		return "then"
	}
	if line == "end" {
		return "between"
	}
	forms, _, e := parse.Parse(line)
	if e != api.OK || len(forms) != 1 || !forms[0].Define {
		return ""
	}
	m.Defs = append(m.Defs, forms[0].Def)
	return "then"
}

func model(s string) ([]api.Manifest, int, api.Errno) {
	if len(s) > api.MaxText {
		return nil, 0, api.ErrLarge
	}
	all := strings.SplitAfter(s, "\n")
	if all[len(all)-1] == "" {
		all = all[:len(all)-1]
	}
	var list []api.Manifest
	where := "between"
	for i, line := range all {
		if line == "\n" {
			continue
		}
		if !strings.HasSuffix(line, "\n") {
			return nil, i + 1, api.ErrText
		}
		where = step(where, strings.TrimSuffix(line, "\n"), &list)
		if where == "" {
			return nil, i + 1, api.ErrText
		}
	}
	if where != "between" {
		return nil, len(all) + 1, api.ErrText
	}
	return list, 0, api.OK
}

// agrees holds a text against the model, and if it is manifests, their text and what is read of that. It answers whether it is.
func agrees(t *testing.T, s string) bool {
	t.Helper()
	want, wantAt, wantE := model(s)
	got, at, e := manifest.Parse(s)
	if tell(got) != tell(want) || at != wantAt || e != wantE {
		t.Fatalf("Parse(%q): %s, %d, %d, want %s, %d, %d", s, tell(got), at, e, tell(want), wantAt, wantE)
	}
	if e != api.OK {
		return false
	}
	text, e := manifest.Text(got)
	if e != api.OK || text != modelText(got) {
		t.Fatalf("Text(%s): %q, %d, want %q", tell(got), text, e, modelText(got))
	}
	reads(t, text, got...)
	return true
}

// modelText answers the text of manifests that are sound.
func modelText(list []api.Manifest) string {
	var all []string
	for _, m := range list {
		all = append(all, "vocab "+m.Name)
		if len(m.Uses) > 0 {
			all = append(all, "uses "+strings.Join(m.Uses, " "))
		}
		for _, d := range m.Defs {
			source, _ := parse.Source([]api.Form{{Define: true, Def: d}})
			all = append(all, strings.TrimSuffix(source, "\n"))
		}
		all = append(all, "end")
	}
	return strings.Join(append(all, ""), "\n")
}

// goThrough hands out all rows of at most count pieces.
func goThrough(pieces []string, count int, use func(string)) {
	var grow func(s string, more int)
	grow = func(s string, more int) {
		use(s)
		if more == 0 {
			return
		}
		for _, p := range pieces {
			grow(s+p, more-1)
		}
	}
	grow("", count)
}

func TestAllShortTexts(t *testing.T) {
	sound := 0
	goThrough(names("vocab a\n", "vocab b", "uses b\n", "uses", " a", ": x ( -- ) ;", "end\n", "\n"), 5, func(s string) {
		if agrees(t, s) {
			sound++
		}
	})
	if sound < 50 {
		t.Errorf("%d texts are manifests", sound)
	}
}

func TestTextsByChance(t *testing.T) {
	r := rand.New(rand.NewSource(16))
	common := names("vocab a\n", "vocab vocab\n", "uses a\n", "uses a b 語\n", ": x ( -- ) ;\n", " : sq ( n -- m ) dup * ; ! a remark\n", ": y ( -- a ) \"\\n\" [ { 1 f } ] ;\n", "end\n", "end\n", "end\n", "\n", "\n\n")
	rare := names("vocab", " ", "1", "\r\n", "\xff", "uses\n", "! \n", "\u00a0", ": x ( -- ) ; : y ( -- ) ;\n", "vocab a a\n", "dup\n", "\"\n")
	sound := 0
	for range 30000 {
		var b strings.Builder
		whole := r.Intn(3) == 0
		for range r.Intn(12) {
			switch {
			case whole:
				b.WriteString(piece(r, common))
			case r.Intn(25) == 0:
				b.WriteString(rare[r.Intn(len(rare))])
			default:
				b.WriteString(common[r.Intn(len(common))])
			}
		}
		if agrees(t, b.String()) {
			sound++
		}
	}
	if sound < 5000 {
		t.Errorf("%d texts are manifests", sound)
	}
}

// piece answers the text of a manifest.
func piece(r *rand.Rand, lines []string) string {
	s := lines[r.Intn(2)] + []string{"", "\n", lines[2], lines[3]}[r.Intn(4)]
	for range r.Intn(4) {
		s += lines[4+r.Intn(3)]
	}
	return s + "end\n"
}

// chance makes manifests, of which nearly all are sound.
type chance struct{ *rand.Rand }

func (c chance) name() string {
	if c.Intn(20) == 0 {
		return names("1", "", "a b", "\xff", "t")[c.Intn(5)]
	}
	return names("a", "b", "dup", "end", "uses", "語", "!a", `a"`, strings.Repeat("n", api.MaxName))[c.Intn(9)]
}

func (c chance) value(depth int) api.Value {
	switch n := c.Intn(6); {
	case n == 0:
		return api.Int{N: c.Int63()>>c.Intn(60)>>3 - 5}
	case n == 1:
		return api.Str{S: names("", "a\nb", `"\`, "! 語", "end\n")[c.Intn(5)]}
	case n == 2 || depth == 0:
		return api.Bool{B: c.Intn(2) == 0}
	case n == 3:
		return api.Quot{Items: c.items(depth - 1)}
	case c.Intn(100) == 0:
		return api.Box{N: 1}
	}
	var l api.List
	for range c.Intn(3) {
		l.Items = append(l.Items, c.value(depth-1))
	}
	return l
}

func (c chance) items(depth int) (items []api.Item) {
	for range c.Intn(4) {
		if c.Intn(2) == 0 {
			items = append(items, call(c.name()))
		} else {
			items = append(items, push(c.value(depth)))
		}
	}
	return items
}

func (c chance) manifest() api.Manifest {
	m := vocab(c.name())
	for range c.Intn(3) {
		m.Uses = append(m.Uses, c.name())
	}
	for range c.Intn(3) {
		m.Defs = append(m.Defs, def(c.name(), c.Intn(5), c.Intn(5), c.items(3)...))
	}
	return m
}

func soundModel(list []api.Manifest) bool {
	for _, m := range list {
		for _, name := range append(names(m.Name), m.Uses...) {
			if !lex.Name(name) {
				return false
			}
		}
		for _, d := range m.Defs {
			if _, e := parse.Source([]api.Form{{Define: true, Def: d}}); e != api.OK {
				return false
			}
		}
	}
	return true
}

// P2: there and back
func TestManifestsByChance(t *testing.T) {
	c := chance{rand.New(rand.NewSource(17))}
	sound := 0
	for range 20000 {
		var list []api.Manifest
		for range c.Intn(4) {
			list = append(list, c.manifest())
		}
		if soundModel(list) {
			sound++
			writes(t, modelText(list), list...)
		} else {
			refusesText(t, api.ErrForm, list...)
		}
	}
	if sound < 5000 || sound > 18000 {
		t.Errorf("%d of the lists are sound", sound)
	}
}
