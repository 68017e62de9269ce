package sum_test

import (
	"bytes"
	"encoding/binary"
	"hash/crc32"
	"math"
	"math/rand"
	"slices"
	"testing"

	"quire/api"
	"quire/sum"
)

const top = uint64(1) << 63

// tidy is the number as bytes by another hand.
func tidy(n uint64) []byte { return binary.AppendUvarint(nil, n) }

func reads(t *testing.T, b []byte, at int, want uint64, behind int) {
	t.Helper()
	if n, next, e := sum.Read(b, at); n != want || next != behind || e != api.OK {
		t.Errorf("Read(%v, %d): %d, %d, %d, want %d, %d", b, at, n, next, e, want, behind)
	}
}

// refusesRead holds that Read answers the error and nothing beside it.
func refusesRead(t *testing.T, b []byte, at int, want api.Errno) {
	t.Helper()
	if n, next, e := sum.Read(b, at); n != 0 || next != 0 || e != want {
		t.Errorf("Read(%v, %d): %d, %d, %d, want the error %d alone", b, at, n, next, e, want)
	}
}

func splits(t *testing.T, b []byte, want [][]byte) {
	t.Helper()
	if list, e := sum.Split(b); e != api.OK || !same(list, want) {
		t.Errorf("Split(%v): %v, %d, want %v", b, list, e, want)
	}
}

// refusesSplit holds that Split answers ErrText and nothing beside it.
func refusesSplit(t *testing.T, b []byte) {
	t.Helper()
	if list, e := sum.Split(b); e != api.ErrText || len(list) != 0 {
		t.Errorf("Split(%v): %v, %d, want the error %d alone", b, list, e, api.ErrText)
	}
}

func same(a, b [][]byte) bool { return slices.EqualFunc(a, b, bytes.Equal) }

func someBytes(r *rand.Rand, n int) []byte {
	b := make([]byte, n)
	for i := range b {
		b[i] = byte(r.Intn(256))
	}
	return b
}

// someNumber has any count of bits up to 64, each as often as another.
func someNumber(r *rand.Rand) uint64 { return r.Uint64() >> r.Intn(64) }

func someLists(r *rand.Rand) [][]byte {
	sizes := []int{0, 1, 2, 5, 126, 127, 128, 129, 300}
	list := make([][]byte, r.Intn(6))
	for i := range list {
		list[i] = someBytes(r, sizes[r.Intn(len(sizes))])
	}
	return list
}

// P2.1

func TestSumOfKnownBytes(t *testing.T) {
	for text, want := range map[string]uint32{
		"":          0,
		"\x00":      0xD202EF8D,
		"\xff":      0xFF000000,
		"a":         0xE8B7BE43,
		"abc":       0x352441C2,
		"123456789": 0xCBF43926,
	} {
		if n := sum.Sum([]byte(text)); n != want {
			t.Errorf("Sum(%q): %#x, want %#x", text, n, want)
		}
	}
	if n := sum.Sum(nil); n != 0 {
		t.Errorf("Sum(nil): %#x", n)
	}
}

func TestSumIsThatOfAnotherHand(t *testing.T) {
	for c := range 256 {
		if b := []byte{byte(c)}; sum.Sum(b) != crc32.ChecksumIEEE(b) {
			t.Errorf("Sum(%v): %#x", b, sum.Sum(b))
		}
	}
	r := rand.New(rand.NewSource(1))
	for n := range 300 {
		if b := someBytes(r, n); sum.Sum(b) != crc32.ChecksumIEEE(b) {
			t.Errorf("Sum(%v): %#x", b, sum.Sum(b))
		}
	}
}

func TestSumTellsEachBit(t *testing.T) {
	b := someBytes(rand.New(rand.NewSource(2)), 124)
	whole := sum.Sum(b)
	for i := range b {
		for bit := range 8 {
			b[i] ^= 1 << bit
			if sum.Sum(b) == whole {
				t.Errorf("bit %d of byte %d does not count", bit, i)
			}
			b[i] ^= 1 << bit
		}
	}
}

// P2.2

func TestNumberAsBytes(t *testing.T) {
	for n, want := range map[uint64][]byte{
		0:       {0},
		1:       {1},
		127:     {127},
		128:     {128, 1},
		300:     {172, 2},
		16383:   {255, 127},
		16384:   {128, 128, 1},
		1 << 56: {128, 128, 128, 128, 128, 128, 128, 128, 1},
		top - 1: {255, 255, 255, 255, 255, 255, 255, 255, 127},
	} {
		if b := sum.Number(n); !bytes.Equal(b, want) {
			t.Errorf("Number(%d): %v, want %v", n, b, want)
		}
		reads(t, want, 0, n, len(want))
	}
}

func TestNumberFrom63BitsOnIsThatOfTheLowOnes(t *testing.T) {
	for _, n := range []uint64{top, top + 1, top + 300, math.MaxUint64 - 1, math.MaxUint64} {
		if b := sum.Number(n); !bytes.Equal(b, tidy(n-top)) {
			t.Errorf("Number(%d): %v, want %v", n, b, tidy(n-top))
		}
	}
}

func TestNumberAndReadAtEachBit(t *testing.T) {
	for bit := range 63 {
		for _, n := range []uint64{1<<bit - 1, 1 << bit, 1<<bit + 1} {
			b := sum.Number(n)
			if !bytes.Equal(b, tidy(n)) {
				t.Errorf("Number(%d): %v, want %v", n, b, tidy(n))
			}
			reads(t, b, 0, n, len(b))
		}
	}
}

func TestNumberAndReadByChance(t *testing.T) {
	r := rand.New(rand.NewSource(3))
	for range 3000 {
		n := someNumber(r)
		want := n % top
		b := sum.Number(n)
		if !bytes.Equal(b, tidy(want)) {
			t.Fatalf("Number(%d): %v, want %v", n, b, tidy(want))
		}
		ahead, behind := someBytes(r, r.Intn(4)), someBytes(r, r.Intn(4))
		reads(t, slices.Concat(ahead, b, behind), len(ahead), want, len(ahead)+len(b))
	}
}

func TestReadStopsBehindTheNumber(t *testing.T) {
	b := []byte{9, 172, 2, 0, 255}
	reads(t, b, 0, 9, 1)
	reads(t, b, 1, 300, 3)
	reads(t, b, 2, 2, 3)
	reads(t, b, 3, 0, 4)
	refusesRead(t, b, 4, api.ErrText)
	refusesRead(t, b, 5, api.ErrText)
}

func TestReadRefusesPlacesOutside(t *testing.T) {
	for _, b := range [][]byte{nil, {}, {1}, {1, 2, 3}} {
		for _, at := range []int{math.MinInt, -2, -1, len(b) + 1, len(b) + 2, math.MaxInt} {
			refusesRead(t, b, at, api.ErrArg)
		}
		refusesRead(t, b, len(b), api.ErrText)
	}
	// What stands behind the length is spare room and not read.
	refusesRead(t, []byte{1, 2, 3}[:1], 2, api.ErrArg)
	refusesRead(t, []byte{1, 2, 3}[:1], 1, api.ErrText)
	refusesRead(t, []byte{200, 2, 3}[:1], 0, api.ErrText)
}

func TestReadRefusesNumbersThatEndTooEarly(t *testing.T) {
	for _, n := range []uint64{128, 300, 1 << 40, 1 << 56, top - 1} {
		b := tidy(n)
		for size := range b {
			refusesRead(t, b[:size:size], 0, api.ErrText)
			refusesRead(t, append([]byte{7}, b[:size]...), 1, api.ErrText)
		}
	}
}

func TestReadRefusesALastByteZero(t *testing.T) {
	for size := 1; size <= 11; size++ {
		for _, c := range []byte{128, 129, 255} {
			b := append(bytes.Repeat([]byte{c}, size), 0)
			refusesRead(t, b, 0, api.ErrText)
			refusesRead(t, append(b, 1, 1), 0, api.ErrText)
		}
	}
	reads(t, []byte{0, 0}, 0, 0, 1)
	reads(t, []byte{128, 0, 0}, 1, 0, 2)
}

func TestReadRefusesNumbersFrom63BitsOn(t *testing.T) {
	for _, n := range []uint64{top, top + 1, math.MaxUint64} {
		refusesRead(t, tidy(n), 0, api.ErrText)
	}
	for size := 9; size <= 40; size++ {
		for _, last := range []byte{0, 1, 2, 127} {
			refusesRead(t, append(bytes.Repeat([]byte{128}, size), last), 0, api.ErrText)
			refusesRead(t, append(bytes.Repeat([]byte{255}, size), last), 0, api.ErrText)
		}
	}
}

// All lists of two bytes: either they begin with the tidy bytes of a number, or they are refused.
func TestReadOfAllShortBytes(t *testing.T) {
	for x := range 1 << 16 {
		b := []byte{byte(x), byte(x >> 8)}
		switch {
		case b[0] < 128:
			reads(t, b, 0, uint64(b[0]), 1)
		case b[1] == 0 || b[1] >= 128:
			refusesRead(t, b, 0, api.ErrText)
		default:
			reads(t, b, 0, uint64(b[0]-128)+128*uint64(b[1]), 2)
		}
	}
}

// P2.3

func TestJoin(t *testing.T) {
	long := bytes.Repeat([]byte{5}, 300)
	for _, c := range []struct {
		list [][]byte
		want []byte
	}{
		{nil, []byte{0}},
		{[][]byte{}, []byte{0}},
		{[][]byte{nil}, []byte{1, 0}},
		{[][]byte{{}}, []byte{1, 0}},
		{[][]byte{nil, {}, nil}, []byte{3, 0, 0, 0}},
		{[][]byte{{1, 2}, {}}, []byte{2, 2, 1, 2, 0}},
		{[][]byte{{}, {1, 2}}, []byte{2, 0, 2, 1, 2}},
		{[][]byte{{0}, {255}}, []byte{2, 1, 0, 1, 255}},
		{[][]byte{long}, append([]byte{1, 172, 2}, long...)},
		{make([][]byte, 300), append([]byte{172, 2}, make([]byte, 300)...)},
	} {
		if b := sum.Join(c.list); !bytes.Equal(b, c.want) {
			t.Errorf("Join(%v): %v, want %v", c.list, b, c.want)
		}
		splits(t, c.want, c.list)
	}
}

func TestSplitRefusesNoBytes(t *testing.T) {
	refusesSplit(t, nil)
	refusesSplit(t, []byte{})
	refusesSplit(t, []byte{0, 7}[:0])
}

func TestSplitRefusesWhatIsNoJoin(t *testing.T) {
	endless := bytes.Repeat([]byte{255}, 20)
	for _, b := range [][]byte{
		{1},                  // no list, where one is told
		{2, 0},               // one too few
		{0, 0},               // one too many
		{1, 0, 0},            // a byte behind the last
		{1, 2, 1},            // a list that ends too early
		{1, 1},               // a list that does not begin
		{128},                // a count that ends too early
		{128, 0},             // a count with a 0 behind
		{129, 0, 0},          // the same, of one list
		{1, 128, 0},          // a length with a 0 behind
		{1, 129, 0, 7},       // the same, of one byte
		{1, 128},             // a length that ends too early
		{1, 128, 1},          // a length beyond the end
		{2, 1, 7, 129, 0, 7}, // the second length with a 0 behind
		endless,
		append([]byte{1}, endless...),
	} {
		refusesSplit(t, b)
	}
}

func TestSplitRefusesHugeNumbers(t *testing.T) {
	for _, n := range []uint64{1 << 20, 1<<31 - 1, 1 << 31, 1 << 32, 1 << 40, 1<<62 + 1, top - 2, top - 1, top, math.MaxUint64} {
		refusesSplit(t, tidy(n))
		refusesSplit(t, append(tidy(n), 0, 0))
		refusesSplit(t, append(append([]byte{1}, tidy(n)...), 1, 2, 3))
		refusesSplit(t, append(append([]byte{2, 1, 7}, tidy(n)...), 1, 2, 3))
	}
}

// All bytes of a few kinds up to six: Split takes just those that some lists join to.
func TestSplitTakesJoinsAlone(t *testing.T) {
	kinds := []byte{0, 1, 2, 3, 128, 129}
	const longest = 6
	joins := map[string][][]byte{}
	var lay func(list [][]byte)
	var lists func(size int) [][]byte
	lists = func(size int) [][]byte {
		if size == 0 {
			return [][]byte{{}}
		}
		var all [][]byte
		for _, b := range lists(size - 1) {
			for _, k := range kinds {
				all = append(all, append(slices.Clone(b), k))
			}
		}
		return all
	}
	lay = func(list [][]byte) {
		b := sum.Join(list)
		if len(b) > longest {
			return
		}
		if joins[string(b)] != nil {
			t.Fatalf("%v and %v have the same Join %v", list, joins[string(b)], b)
		}
		joins[string(b)] = append([][]byte{}, list...)
		for size := range longest - len(b) {
			for _, part := range lists(size) {
				lay(append(slices.Clone(list), part))
			}
		}
	}
	lay(nil)
	taken := 0
	for size := range longest + 1 {
		for _, b := range lists(size) {
			if want, ok := joins[string(b)]; ok {
				taken++
				splits(t, b, want)
			} else {
				refusesSplit(t, b)
			}
		}
	}
	if taken < 1000 {
		t.Errorf("just %d Joins", taken)
	}
}

func TestSplitOfJoinByChance(t *testing.T) {
	r := rand.New(rand.NewSource(4))
	for range 400 {
		list := someLists(r)
		b := sum.Join(list)
		splits(t, b, list)
		refusesSplit(t, b[:len(b)-1])
		refusesSplit(t, append(slices.Clone(b), byte(r.Intn(256))))
		if cut := r.Intn(len(b)); cut > 0 {
			refusesSplit(t, b[:cut])
		}
		other := someLists(r)
		if bytes.Equal(sum.Join(other), b) != same(other, list) {
			t.Errorf("Join of %v and of %v", list, other)
		}
	}
}

// Whatever the bytes, Split takes them just if the lists that it tells join to them.
func TestSplitOfTurnedBytes(t *testing.T) {
	r := rand.New(rand.NewSource(5))
	taken := 0
	for range 20000 {
		b := sum.Join(someLists(r))
		b[r.Intn(len(b))] = byte(someNumber(r))
		list, e := sum.Split(b)
		switch {
		case e == api.OK:
			taken++
			if !bytes.Equal(sum.Join(list), b) {
				t.Fatalf("Split(%v): %v", b, list)
			}
		case e != api.ErrText || len(list) != 0:
			t.Fatalf("Split(%v): %v, %d", b, list, e)
		}
	}
	if taken == 0 {
		t.Error("nothing was taken")
	}
}

func TestJoinsTellListsApart(t *testing.T) {
	lists := [][][]byte{nil, {{}}, {{}, {}}, {{0}}, {{0}, {}}, {{}, {0}}, {{1, 2}}, {{1}, {2}}, {{2, 1}}, {{0, 0}}}
	for i, a := range lists {
		for j, b := range lists {
			if (i == j) != bytes.Equal(sum.Join(a), sum.Join(b)) {
				t.Errorf("Join of %v and of %v", a, b)
			}
		}
	}
}

// R4

func TestNothingHandedInIsChanged(t *testing.T) {
	room := []byte{1, 2, 7, 8, 99, 99, 99, 99}
	was := slices.Clone(room)
	b := room[:4]
	sum.Sum(b)
	sum.Read(b, 0)
	sum.Split(b)
	list := [][]byte{room[0:0:8], room[:2], b}
	spare := list[:2]
	sum.Join(spare)
	if !bytes.Equal(room, was) || !bytes.Equal(list[2], b) {
		t.Errorf("changed: %v, %v", room, list)
	}
}

func TestAnswersShareNoMemory(t *testing.T) {
	b := sum.Join([][]byte{{1, 2}, {}, {3}})
	was := slices.Clone(b)
	list, _ := sum.Split(b)
	again, _ := sum.Split(b)
	for _, l := range list {
		scribble(l)
	}
	if !bytes.Equal(b, was) {
		t.Errorf("a list that Split tells lies in the bytes: %v", b)
	}
	for i := range b {
		b[i] = 50
	}
	if want := [][]byte{{1, 2}, {}, {3}}; !same(again, want) {
		t.Errorf("the lists have changed: %v", again)
	}
	part := []byte{4, 5}
	joined := sum.Join([][]byte{part})
	part[0] = 9
	if !bytes.Equal(joined, []byte{1, 2, 4, 5}) {
		t.Errorf("the Join has changed: %v", joined)
	}
	one, two := sum.Number(5), sum.Number(5)
	scribble(one)
	if !bytes.Equal(two, []byte{5}) {
		t.Errorf("the number has changed: %v", two)
	}
}

// scribble writes over the list up to the end of its spare room.
func scribble(l []byte) {
	l = l[:cap(l)]
	for i := range l {
		l[i] = 200
	}
}

func TestListsOfOneAnswerShareNoMemory(t *testing.T) {
	want := [][]byte{{1, 2}, {}, {3}, {}, {4, 5, 6}}
	for i := range want {
		list, _ := sum.Split(sum.Join(want))
		scribble(list[i])
		list[i] = want[i]
		if !same(list, want) {
			t.Errorf("list %d shares memory: %v", i, list)
		}
	}
}
