package pages_test

import (
	"bytes"
	"encoding/binary"
	"hash/crc32"
	"math"
	"math/rand"
	"slices"
	"testing"

	"quire/api"
	"quire/disk"
	"quire/pages"
)

// laid is the bytes of a page by another hand; size is what stands as the length, which need not be that of rest.
func laid(id, size uint32, rest []byte) []byte {
	b := binary.LittleEndian.AppendUint32(make([]byte, 4), id)
	b = binary.LittleEndian.AppendUint32(b, size)
	b = append(b, rest...)
	b = append(b, make([]byte, api.PageSize-len(b))...)
	binary.LittleEndian.PutUint32(b, crc32.ChecksumIEEE(b[4:]))
	return b
}

func page(id uint32, data []byte) []byte { return laid(id, uint32(len(data)), data) }

func count(n int) []byte {
	b := make([]byte, n)
	for i := range b {
		b[i] = byte(i + 1)
	}
	return b
}

func is(t *testing.T, what string, got, want api.Errno) {
	t.Helper()
	if got != want {
		t.Errorf("%s: error %d, want %d", what, got, want)
	}
}

func packs(t *testing.T, id uint32, data []byte) {
	t.Helper()
	want := page(id, data)
	if b, e := pages.Pack(id, data); e != api.OK || !bytes.Equal(b, want) {
		t.Errorf("Pack(%d, %v): %v, %d, want %v", id, data, b, e, want)
	}
	unpacks(t, want, id, data)
}

func unpacks(t *testing.T, b []byte, id uint32, data []byte) {
	t.Helper()
	if i, d, e := pages.Unpack(b); i != id || !bytes.Equal(d, data) || e != api.OK {
		t.Errorf("Unpack(%v): %d, %v, %d, want %d, %v", b, i, d, e, id, data)
	}
}

// refusesUnpack holds that Unpack answers the error and nothing beside it.
func refusesUnpack(t *testing.T, b []byte, want api.Errno) {
	t.Helper()
	if id, data, e := pages.Unpack(b); id != 0 || len(data) != 0 || e != want {
		t.Errorf("Unpack(%v): %d, %v, %d, want the error %d alone", b, id, data, e, want)
	}
}

// P3.1

func TestFirstExample(t *testing.T) {
	b, e := pages.Pack(7, []byte{1, 2})
	if e != api.OK || len(b) != api.PageSize {
		t.Fatalf("Pack: %v, %d", b, e)
	}
	if want := []byte{7, 0, 0, 0, 2, 0, 0, 0, 1, 2}; !bytes.Equal(b[4:14], want) {
		t.Errorf("bytes 4 to 13: %v, want %v", b[4:14], want)
	}
	if !bytes.Equal(b[14:], make([]byte, api.PageSize-14)) {
		t.Errorf("bytes from 14 on: %v", b[14:])
	}
	if n := binary.LittleEndian.Uint32(b); n != crc32.ChecksumIEEE(b[4:]) {
		t.Errorf("the sum is %#x", n)
	}
	used := []bool{true, false, true, false}
	firstIs(t, used, 2, []int{1, 3})
	refusesFirst(t, used, 3, api.ErrFull)
}

func TestPackOfEachLength(t *testing.T) {
	for n := range api.MaxData + 1 {
		packs(t, uint32(n*n), count(n))
		packs(t, 1, make([]byte, n))
		packs(t, 2, bytes.Repeat([]byte{255}, n))
	}
	packs(t, 9, nil)
}

func TestPackOfEachId(t *testing.T) {
	for bit := range 32 {
		packs(t, 1<<bit, []byte{5})
	}
	for _, id := range []uint32{0, 0x01020304, 3 + 256*(api.MaxLogical-1), math.MaxInt32, math.MaxUint32} {
		packs(t, id, nil)
		packs(t, id, count(api.MaxData))
	}
}

func TestPackRefusesTooMuch(t *testing.T) {
	for _, n := range []int{api.MaxData + 1, api.MaxData + 2, api.PageSize, api.PageSize + 1, 1 << 16} {
		if b, e := pages.Pack(3, make([]byte, n)); e != api.ErrLarge || len(b) != 0 {
			t.Errorf("Pack of %d bytes: %v, %d", n, b, e)
		}
	}
}

func TestUnpackRefusesOtherLengths(t *testing.T) {
	whole := append(page(7, []byte{1, 2}), make([]byte, api.PageSize)...)
	for n := range len(whole) + 1 {
		if n != api.PageSize {
			refusesUnpack(t, whole[:n], api.ErrArg)
			refusesUnpack(t, whole[:n:n], api.ErrArg)
		}
	}
	refusesUnpack(t, nil, api.ErrArg)
	unpacks(t, whole[:api.PageSize], 7, []byte{1, 2})
}

func TestUnpackTellsEachBit(t *testing.T) {
	for _, data := range [][]byte{nil, {1, 2}, count(api.MaxData)} {
		b := page(7, data)
		for i := range b {
			for bit := range 8 {
				b[i] ^= 1 << bit
				refusesUnpack(t, b, api.ErrSum)
				b[i] ^= 1 << bit
			}
		}
		unpacks(t, b, 7, data)
	}
}

func TestUnpackRefusesPagesWithoutASum(t *testing.T) {
	refusesUnpack(t, make([]byte, api.PageSize), api.ErrSum)
	refusesUnpack(t, bytes.Repeat([]byte{255}, api.PageSize), api.ErrSum)
	b := page(7, []byte{1, 2})
	slices.Reverse(b[:4])
	refusesUnpack(t, b, api.ErrSum)
}

func TestUnpackRefusesLengthsBeyond(t *testing.T) {
	for _, size := range []uint32{api.MaxData + 1, api.MaxData + 2, api.PageSize, 256, 256 + 2, 1 << 16, 1 << 24, math.MaxInt32, 1 << 31, 1<<31 + 2, math.MaxUint32 - 11, math.MaxUint32} {
		refusesUnpack(t, laid(7, size, nil), api.ErrSum)
		refusesUnpack(t, laid(7, size, count(api.MaxData)), api.ErrSum)
	}
	unpacks(t, laid(7, api.MaxData, nil), 7, make([]byte, api.MaxData))
}

func TestUnpackRefusesBytesBehindTheData(t *testing.T) {
	for _, size := range []int{0, 1, 2, 50, api.MaxData - 1} {
		for at := size; at < api.MaxData; at++ {
			rest := make([]byte, api.MaxData)
			rest[at] = 1
			refusesUnpack(t, laid(7, uint32(size), rest), api.ErrSum)
			unpacks(t, laid(7, uint32(at+1), rest), 7, rest[:at+1])
		}
	}
	refusesUnpack(t, laid(0, 0, bytes.Repeat([]byte{255}, api.MaxData)), api.ErrSum)
}

func TestPagesTellIdsAndDataApart(t *testing.T) {
	type part struct {
		id   uint32
		data []byte
	}
	parts := []part{{0, nil}, {0, []byte{0}}, {0, []byte{0, 0}}, {0, []byte{1}}, {1, nil}, {1, []byte{0}}, {256, nil}, {0, []byte{0, 1}}, {0, make([]byte, api.MaxData)}}
	for i, x := range parts {
		a, _ := pages.Pack(x.id, x.data)
		for j, y := range parts {
			if b, _ := pages.Pack(y.id, y.data); bytes.Equal(a, b) != (i == j) {
				t.Errorf("Pack of %v and of %v", x, y)
			}
		}
	}
}

// Of bytes by chance with a sum that fits, just those are taken that some id and data pack to.
func TestUnpackTakesPagesAlone(t *testing.T) {
	r := rand.New(rand.NewSource(1))
	taken := 0
	for range 3000 {
		rest := make([]byte, r.Intn(api.MaxData+1))
		for i := range rest {
			rest[i] = byte(r.Intn(3))
		}
		size := max(0, len(rest)+r.Intn(5)-3)
		b := laid(r.Uint32(), uint32(size), rest)
		id, data, e := pages.Unpack(b)
		if e == api.OK {
			taken++
			packs(t, id, data)
			unpacks(t, b, id, data)
			if again, _ := pages.Pack(id, data); !bytes.Equal(again, b) {
				t.Fatalf("%v is taken, but is no page", b)
			}
			continue
		}
		refusesUnpack(t, b, api.ErrSum)
		full := append(slices.Clone(rest), make([]byte, api.MaxData)...)[:api.MaxData]
		if size <= api.MaxData && bytes.Equal(full[size:], make([]byte, api.MaxData-size)) {
			t.Fatalf("%v is refused, but is a page", b)
		}
	}
	if taken < 500 || taken > 2900 {
		t.Errorf("%d were taken", taken)
	}
}

// P3.3

func firstIs(t *testing.T, used []bool, n int, want []int) {
	t.Helper()
	if l, e := pages.First(used, n); e != api.OK || !slices.Equal(l, want) {
		t.Errorf("First(%v, %d): %v, %d, want %v", used, n, l, e, want)
	}
}

// refusesFirst holds that First answers the error and nothing beside it.
func refusesFirst(t *testing.T, used []bool, n int, want api.Errno) {
	t.Helper()
	if l, e := pages.First(used, n); e != want || len(l) != 0 {
		t.Errorf("First(%v, %d): %v, %d, want the error %d alone", used, n, l, e, want)
	}
}

// All lists of up to eight entries, with each n that is near.
func TestFirstOfAllShortLists(t *testing.T) {
	for size := range 9 {
		for bits := range 1 << size {
			used := make([]bool, size)
			var free []int
			for i := range used {
				used[i] = bits>>i&1 == 1
				if !used[i] {
					free = append(free, i)
				}
			}
			for n := range len(free) + 1 {
				firstIs(t, used, n, free[:n])
			}
			refusesFirst(t, used, len(free)+1, api.ErrFull)
			refusesFirst(t, used, len(free)+2, api.ErrFull)
			refusesFirst(t, used, math.MaxInt, api.ErrFull)
			refusesFirst(t, used, -1, api.ErrArg)
			refusesFirst(t, used, math.MinInt, api.ErrArg)
		}
	}
}

func TestFirstOfNothing(t *testing.T) {
	firstIs(t, nil, 0, nil)
	refusesFirst(t, nil, 1, api.ErrFull)
	refusesFirst(t, nil, -1, api.ErrArg)
	refusesFirst(t, nil, math.MaxInt, api.ErrFull)
}

func TestFirstOfALongList(t *testing.T) {
	used := make([]bool, 100000)
	want := make([]int, len(used))
	for i := range used {
		want[i] = i
	}
	firstIs(t, used, len(used), want)
	refusesFirst(t, used, len(used)+1, api.ErrFull)
	for i := range len(used) - 1 {
		used[i] = true
	}
	firstIs(t, used, 1, []int{len(used) - 1})
	refusesFirst(t, used, 2, api.ErrFull)
}

func TestFirstSeesNoSpareRoom(t *testing.T) {
	refusesFirst(t, []bool{true, false, false}[:1], 1, api.ErrFull)
	refusesFirst(t, []bool{true, false, false}[:2], 2, api.ErrFull)
}

// R4

func TestNothingHandedInIsChanged(t *testing.T) {
	room := append(page(7, []byte{1, 2}), 9, 9, 9)
	was := slices.Clone(room)
	d, _ := disk.New(8)
	for _, b := range [][]byte{room[:api.PageSize], room[:5], room[:0]} {
		pages.Pack(1, b)
		pages.Unpack(b)
		is(t, "Write", pages.Write(d, 0, 1, b[:len(b)%100]), api.OK)
	}
	if !bytes.Equal(room, was) {
		t.Errorf("changed: %v", room)
	}
	flags := []bool{true, false, false, true, false}
	flagsWere := slices.Clone(flags)
	pages.First(flags[:3], 2)
	pages.First(flags[:3], 3)
	if !slices.Equal(flags, flagsWere) {
		t.Errorf("changed: %v", flags)
	}
}

// scribble writes over the list up to the end of its spare room.
func scribble[T any](l []T, with T) {
	l = l[:cap(l)]
	for i := range l {
		l[i] = with
	}
}

func TestAnswersShareNoMemory(t *testing.T) {
	data := []byte{1, 2, 3}
	one, _ := pages.Pack(7, data)
	two, _ := pages.Pack(7, data)
	scribble(one, 200)
	if !bytes.Equal(data, []byte{1, 2, 3}) || !bytes.Equal(two, page(7, data)) {
		t.Errorf("a page shares memory: %v, %v", data, two)
	}
	data[0] = 9
	unpacks(t, two, 7, []byte{1, 2, 3})

	_, out, _ := pages.Unpack(two)
	_, again, _ := pages.Unpack(two)
	scribble(out, 200)
	if !bytes.Equal(two, page(7, []byte{1, 2, 3})) {
		t.Errorf("the data lie in the bytes: %v", two)
	}
	scribble(two, 0)
	if !bytes.Equal(again, []byte{1, 2, 3}) {
		t.Errorf("the data have changed: %v", again)
	}

	used := []bool{false, true, false}
	left, _ := pages.First(used, 2)
	right, _ := pages.First(used, 2)
	scribble(left, -1)
	if !slices.Equal(right, []int{0, 2}) {
		t.Errorf("the numbers have changed: %v", right)
	}
}
