package parse_test

import (
	"strings"
	"testing"

	"quire/api"
	"quire/parse"
)

// P7.1: what is too large

func accepts(t *testing.T, s string) {
	t.Helper()
	if _, at, e := parse.Parse(s); at != 0 || e != api.OK {
		t.Errorf("Parse(%q): %d, %d", short(s), at, e)
	}
}

func acceptsItems(t *testing.T, s string) {
	t.Helper()
	accepts(t, s)
	if _, at, e := parse.Items(s); at != 0 || e != api.OK {
		t.Errorf("Items(%q): %d, %d", short(s), at, e)
	}
}

const most = api.MaxSize - 1 // items that fit in one bracket

func TestNests(t *testing.T) {
	for _, b := range []struct{ opening, closing string }{{"[ ", "] "}, {"{ ", "} "}, {"[ { ", "} ] "}} {
		times := 2 * api.MaxNest / len(b.opening)
		open, closed := strings.Repeat(b.opening, times), strings.Repeat(b.closing, times)
		acceptsItems(t, open+closed)
		acceptsItems(t, open+"1 "+closed+open+closed)
		acceptsItems(t, "[ ] a "+open+closed)
		for _, more := range []string{"[", "{", "[ ]", "{ }", "[ dup", "{ dup ;", "[ [", `[ "`, "{ }" + closed} {
			if strings.HasSuffix(more, `"`) {
				refuses(t, open+more, len(open)+2, api.ErrText) // the fault of a token counts ahead
				continue
			}
			refuses(t, open+more, len(open), api.ErrLarge)
			refuses(t, "[ ] "+open+closed+open+more, 4+2*len(open)+len(closed), api.ErrLarge)
		}
	}
}

func TestNestsInDefinitions(t *testing.T) {
	head := ": a ( b -- c ) "
	open, closed := strings.Repeat("[ ", api.MaxNest-1), strings.Repeat("] ", api.MaxNest-1)
	accepts(t, head+open+closed+open+closed+"; "+"[ "+open+closed+"]")
	refusesParse(t, head+open+"[ ] "+closed+";", len(head)+len(open), api.ErrLarge)
	refusesParse(t, head+open+"{ } "+closed+";", len(head)+len(open), api.ErrLarge)
	whole := head + "; "
	accepts(t, whole+"[ "+open+closed+"] ")
	refusesParse(t, whole+"[ "+open+"{ ", len(whole)+2+len(open), api.ErrLarge)
}

// A word that can't stand there is not a bracket too many.
func TestNestsAndWordsThatCanNotStandThere(t *testing.T) {
	open := strings.Repeat("{ ", api.MaxNest)
	for _, s := range []string{"dup", "]", "(", ")", ":", ";", "--"} {
		refuses(t, open+s, len(open), api.ErrText)
	}
	refuses(t, open, len(open), api.ErrText)
}

func TestSizes(t *testing.T) {
	for _, s := range []string{"a ", "1 ", `"" `, "t ", "f "} {
		full := "[ " + strings.Repeat(s, most)
		acceptsItems(t, full+"]")
		acceptsItems(t, strings.Repeat(s, most+9)+full+"] "+s+full+"]")
		for _, more := range []string{"a", "1", `""`, "t", "f", "[", "{", "[ ]", "a ] ]"} {
			refuses(t, full+more, len(full), api.ErrLarge)
			refuses(t, "[ a ] b "+full+more, 8+len(full), api.ErrLarge)
		}
		refuses(t, full, len(full), api.ErrText)
	}
	full := "{ " + strings.Repeat("1 ", most)
	acceptsItems(t, full+"}")
	refuses(t, full+"1 }", len(full), api.ErrLarge)
}

// Brackets count, those that close them do not.
func TestSizesOfBrackets(t *testing.T) {
	full := "[ " + strings.Repeat("[ ] ", most)
	acceptsItems(t, full+"]")
	refuses(t, full+"[ ] ]", len(full), api.ErrLarge)
	refuses(t, full+"a ]", len(full), api.ErrLarge)
	deep := "{ " + strings.Repeat("{ { 1 } [ a ] } ", most/5)
	rest := strings.Repeat("t ", most%5)
	acceptsItems(t, deep+rest+"}")
	refuses(t, deep+rest+"f }", len(deep)+len(rest), api.ErrLarge)
}

func TestSizesOfDefinitions(t *testing.T) {
	names := strings.Repeat("x ", api.MaxArgs)
	for _, head := range []string{": a ( -- ) ", ": a ( " + names + "-- " + names + ") "} {
		full := head + strings.Repeat("b ", most)
		accepts(t, full+";")
		accepts(t, "[ "+strings.Repeat("b ", most)+"] "+full+"; "+full+";")
		refusesParse(t, full+"b ;", len(full), api.ErrLarge)
		refusesParse(t, full+"[ ] ;", len(full), api.ErrLarge)
		refusesParse(t, full, len(full), api.ErrText)
		inner := head + "[ " + strings.Repeat("b ", most-1)
		accepts(t, inner+"] ;")
		refusesParse(t, inner+"b ] ;", len(inner), api.ErrLarge)
		refusesParse(t, inner+"] b ;", len(inner)+2, api.ErrLarge)
	}
}

// Outside of brackets only the tokens of the whole are counted.
func TestSizesOutside(t *testing.T) {
	acceptsItems(t, strings.Repeat("a ", api.MaxItems))
	acceptsItems(t, strings.Repeat("[ ] ", api.MaxItems/2))
	accepts(t, strings.Repeat(": a ( -- ) ; ", api.MaxItems/6))
}

// The token too many that can't stand there is a fault of the grammar.
func TestSizesAndWordsThatCanNotStandThere(t *testing.T) {
	full := "[ " + strings.Repeat("a ", most)
	for _, s := range []string{"}", "(", ")", ":", ";", "--"} {
		refuses(t, full+s, len(full), api.ErrText)
	}
	full = "{ " + strings.Repeat("1 ", most)
	for _, s := range []string{"dup", "]", "(", ")", ":", ";", "--"} {
		refuses(t, full+s, len(full), api.ErrText)
	}
}

func TestSidesOfEffects(t *testing.T) {
	full := strings.Repeat("x ", api.MaxArgs)
	parses(t, ": a ( "+full+"-- "+full+") ;", def("a", effect(api.MaxArgs, api.MaxArgs)))
	in := ": a ( " + full
	refusesParse(t, in+"y -- ) ;", len(in), api.ErrLarge)
	refusesParse(t, in+"y", len(in), api.ErrLarge)
	refusesParse(t, in, len(in), api.ErrText)
	out := in + "-- " + full
	refusesParse(t, out+"y ) ;", len(out), api.ErrLarge)
	refusesParse(t, out, len(out), api.ErrText)
	for _, s := range []string{"1", `""`, "t", "[", ":", "(", ";"} {
		refusesParse(t, in+s, len(in), api.ErrText)
		refusesParse(t, out+s, len(out), api.ErrText)
	}
	refusesParse(t, in+") ;", len(in), api.ErrText)
	refusesParse(t, out+"-- ) ;", len(out), api.ErrText)
}

func TestTheFirstFaultCounts(t *testing.T) {
	nest := strings.Repeat("[ ", api.MaxNest+1)
	refuses(t, "} "+nest, 0, api.ErrText)
	refuses(t, nest+"}", 2*api.MaxNest, api.ErrLarge)
	long := "[ " + strings.Repeat("a ", most+1)
	refuses(t, long+"}", 2+2*most, api.ErrLarge)
	refuses(t, "{ a } "+long, 2, api.ErrText)
	args := ": a ( " + strings.Repeat("x ", api.MaxArgs+1)
	refusesParse(t, args+"[", 6+2*api.MaxArgs, api.ErrLarge)
	refusesParse(t, ") "+args, 0, api.ErrText)
	refusesParse(t, ": a ( x ( "+strings.Repeat("x ", api.MaxArgs+1), 8, api.ErrText)
}
