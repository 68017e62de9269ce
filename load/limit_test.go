package load_test

import (
	"fmt"
	"slices"
	"strings"
	"testing"

	"quire/api"
	"quire/dict"
	"quire/manifest"
)

// row answers so many manifests, each of which uses the one ahead of it, and their names.
func row(n int) (list []api.Manifest, all []string) {
	for i := range n {
		m := using(fmt.Sprintf("v%05d", i))
		if i > 0 {
			m.Uses = names(list[i-1].Name)
		}
		list, all = append(list, m), append(all, m.Name)
	}
	return list, all
}

// dictOfRow answers the dictionary of a row.
func dictOfRow(list []api.Manifest) (d api.Dict) {
	for _, m := range list {
		d.Vocabs = append(d.Vocabs, api.Vocab{Name: m.Name, Uses: m.Uses})
	}
	return d
}

func TestMaxVocabs(t *testing.T) {
	list, all := row(3 * api.MaxVocabs)
	full := dictOfRow(list[:api.MaxVocabs])
	last, over := all[api.MaxVocabs-1], all[api.MaxVocabs]
	loads(t, dict.New(), list, names(last), full, all[:api.MaxVocabs]...)
	loads(t, dictOfRow(list[:9]), list, names(last), full, all[9:api.MaxVocabs]...)
	loads(t, full, list, names(all[7], last), full)
	fails(t, dict.New(), list, names(over), over, api.ErrLarge)
	fails(t, dict.New(), list, all, over, api.ErrLarge)
	fails(t, full, list, names(all[api.MaxVocabs+1]), over, api.ErrLarge)
	// What goes wrong ahead of it is told.
	list[20].Defs = []api.Def{def("x", 0, 0, call("none"))}
	fails(t, dict.New(), list, all, all[20], api.ErrName)
	refuses(t, dict.New(), list[:len(list)-1], all, all[len(all)-1], api.ErrNone)
}

// many answers so many definitions, each of which calls the one ahead of it.
func many(n int) (defs []api.Def) {
	for i := range n {
		d := def(fmt.Sprintf("w%03d", i), 0, 1, push(api.Int{N: 1}))
		if i > 0 {
			d.Body = []api.Item{call(defs[i-1].Name)}
		}
		defs = append(defs, d)
	}
	return defs
}

func dictOfDefs(name string, defs []api.Def) api.Dict {
	d := api.Dict{Vocabs: []api.Vocab{{Name: name}}}
	for _, def := range defs {
		d.Words = append(d.Words, api.Word{Vocab: name, Def: def})
	}
	return d
}

func TestMaxWords(t *testing.T) {
	all := many(api.MaxWords)
	full := dictOfDefs("a", all)
	loads(t, dict.New(), manifests(vocab("a", all...)), names("a"), full, "a")
	more := manifests(vocab("b", def("x", 0, 0)), vocab("c"), using("d", "b"))
	fails(t, full, more, names("b"), "b", api.ErrLarge)
	fails(t, full, more, names("d"), "b", api.ErrLarge)
	with := dictOfDefs("a", all)
	with.Vocabs = append(with.Vocabs, api.Vocab{Name: "c"})
	loads(t, full, more, names("c"), with, "c")
	fails(t, dict.New(), manifests(vocab("a", append(slices.Clone(all), def("x", 0, 0))...)), names("a"), "a", api.ErrLarge)
	// One in the place of another is none more.
	again := append(slices.Clone(all), all[:3]...)
	loads(t, dict.New(), manifests(vocab("a", again...)), names("a"), full, "a")
}

// Manifests that are too many for one text are sound, nonetheless; what is not sound among them is.
func TestManyManifests(t *testing.T) {
	list, all := row(9000)
	if _, e := manifest.Text(list); e != api.ErrLarge {
		t.Fatalf("Text: %d", e)
	}
	loads(t, dict.New(), list, names(all[1]), dictOfRow(list[:2]), all[:2]...)
	plans(t, dict.New(), list, names(all[8999]), all...)
	fails(t, dict.New(), list, names(all[8999]), all[api.MaxVocabs], api.ErrLarge)
	refuses(t, dict.New(), append(list, using(all[5])), names(all[1]), all[5], api.ErrTwice)
	refuses(t, dict.New(), append(list, vocab("1")), names(all[1]), "", api.ErrForm)
}

func TestLargeDefinitions(t *testing.T) {
	body := slices.Repeat([]api.Item{push(api.Int{N: 1}), call("drop")}, (api.MaxSize-2)/2)
	list := manifests(vocab("a", def("x", 0, 0, body...), def("y", api.MaxArgs, 0, slices.Repeat([]api.Item{call("drop")}, api.MaxArgs)...)))
	made := dictOfDefs("a", list[0].Defs)
	loads(t, dict.New(), list, names("a"), made, "a")
	long := manifests(vocab(strings.Repeat("n", api.MaxName), def(strings.Repeat("é", api.MaxName), 0, 0)))
	loads(t, made, long, names(long[0].Name), api.Dict{
		Vocabs: []api.Vocab{{Name: "a"}, {Name: long[0].Name}},
		Words:  append(made.Words, api.Word{Vocab: long[0].Name, Def: long[0].Defs[0]}),
	}, long[0].Name)
}
