package shadow_test

import (
	"bytes"
	"encoding/binary"
	"math"
	"testing"

	"quire/api"
	"quire/disk"
)

// What a root must be to count (P4.1, 'Words').

// sound is a disk of eleven pages with a root of epoch 9 at that sector: tables at pages 4 and 3, logical pages 0, 5, 130 and 727 at pages 8, 10, 2 and 6. A number of the table goes across from one page to the next.
func sound(t *testing.T, sector int) *disk.Disk {
	t.Helper()
	d := newDisk(t, 44)
	writeSector(t, d, sector, rootOf(9, 4, 2))
	table := tableOf(0, 0, 8, 5, 10, 130, 2, 727, 6)[4:]
	const cut = 5 // within 130
	writePage(t, d, 4, 2, append(tableOf(3), table[:cut]...))
	writePage(t, d, 3, 2, append(tableOf(0), table[cut:]...))
	writePage(t, d, 8, 3, nil)
	writePage(t, d, 10, 3+256*5, []byte{5})
	writePage(t, d, 2, 3+256*130, all(api.MaxData, 7))
	writePage(t, d, 6, 3+256*727, []byte{0})
	return d
}

func soundData() map[int][]byte {
	return map[int][]byte{0: {}, 5: {5}, 130: all(api.MaxData, 7), 727: {0}}
}

func TestASoundRootCounts(t *testing.T) {
	for _, sector := range []int{0, 4} {
		s := open(t, sound(t, sector))
		epoch(t, s, 9)
		has(t, s, soundData())
		room(t, s, 11-2-6, 1)
	}
}

func TestARootNeedNotBeAsACommitWouldWriteIt(t *testing.T) {
	d := sound(t, 0)
	// A table page without a byte of the table, and one that is all but empty.
	writeSector(t, d, 0, rootOf(9, 7, 3))
	writePage(t, d, 7, 2, tableOf(4))
	s := open(t, d)
	has(t, s, soundData())
	room(t, s, 11-2-7, 1)
	is(t, "Commit", s.Commit(), api.OK)
	room(t, s, 11-2-5, 1)
	has(t, open(t, d), soundData())
}

func TestNoBitOfARootMayTurn(t *testing.T) {
	for _, sector := range []int{0, 4} {
		d := sound(t, sector)
		b, _ := d.Read(sector)
		for i := range b {
			for bit := range 8 {
				b[i] ^= 1 << bit
				writeSector(t, d, sector, b)
				refusesOpen(t, "with a bit of the root turned", d, api.ErrNone)
				b[i] ^= 1 << bit
			}
		}
		writeSector(t, d, sector, b)
		has(t, open(t, d), soundData())
	}
}

func TestARootOfEpochNought(t *testing.T) {
	d := sound(t, 0)
	writeSector(t, d, 0, rootOf(0, 4, 2))
	refusesOpen(t, "epoch 0", d, api.ErrNone)
	writeSector(t, d, 0, rootOf(0, 0, 0))
	refusesOpen(t, "epoch 0 without tables", d, api.ErrNone)
}

func TestEachByteOfARootThatMustBeNought(t *testing.T) {
	for i := 16; i < 24; i++ {
		d := newDisk(t, 12)
		b := rootOf(1, 0, 0)
		b[i] = 1
		writeSector(t, d, 0, b)
		refusesOpen(t, "a byte that is not 0", d, api.ErrNone)
	}
}

func TestRootsElsewhereAreNone(t *testing.T) {
	d := newDisk(t, 44)
	for s := range 44 {
		if s != 0 && s != 4 {
			writeSector(t, d, s, rootOf(1, 0, 0))
		}
	}
	refusesOpen(t, "no root at the sectors 0 and 4", d, api.ErrNone)
}

func TestTheCountOfTables(t *testing.T) {
	for _, c := range []struct {
		what         string
		first, count int
	}{
		{"too few", 4, 1}, {"none, but a first", 4, 0}, {"too many", 4, 3}, {"far too many", 4, math.MaxUint32},
		{"no first", 0, 2}, {"no first, one", 0, 1}, {"no first, far too many", 0, math.MaxUint32},
		{"not from the first on", 3, 2}, {"a first at a root", 1, 1}, {"a first at a root, two", 1, 2},
		{"a first beyond", 11, 2}, {"a first far beyond", math.MaxUint32, 2}, {"a data page", 8, 1},
		{"an empty page", 9, 1},
	} {
		d := sound(t, 0)
		writeSector(t, d, 0, rootOf(9, c.first, c.count))
		refusesOpen(t, c.what, d, api.ErrNone)
	}
}

func TestTablesThatDoNotFollow(t *testing.T) {
	rest := tableOf(0, 0, 8, 5, 10, 130, 2, 727, 6)[4:]
	for _, c := range []struct {
		what  string
		count int
		page  int
		id    uint32
		data  []byte
	}{
		{"itself", 2, 4, 2, append(tableOf(4), rest...)},
		{"back to the first", 2, 3, 2, append(tableOf(4), rest[5:]...)},
		{"back to the first, three", 3, 3, 2, append(tableOf(4), rest[5:]...)},
		{"endless", math.MaxUint32, 3, 2, append(tableOf(4), rest[5:]...)},
		{"a root", 2, 4, 2, append(tableOf(1), rest...)},
		{"none", 2, 4, 2, append(tableOf(0), rest...)},
		{"beyond", 2, 4, 2, append(tableOf(11), rest...)},
		{"far beyond", 2, 4, 2, append(tableOf(math.MaxUint32), rest...)},
		{"a further one", 2, 3, 2, append(tableOf(7), rest[5:]...)},
		{"a data page", 2, 4, 2, append(tableOf(8), rest...)},
		{"another id", 2, 4, 3, append(tableOf(3), rest[:5]...)},
		{"another id, the last's", 2, 3, 2 + 256, append(tableOf(0), rest[5:]...)},
		{"id 0", 2, 4, 0, append(tableOf(3), rest[:5]...)},
		{"no data", 2, 4, 2, nil},
		{"three bytes", 2, 4, 2, tableOf(3)[:3]},
		{"three bytes, the last's", 2, 3, 2, tableOf(0)[:3]},
	} {
		d := sound(t, 0)
		writeSector(t, d, 0, rootOf(9, 4, c.count))
		writePage(t, d, c.page, c.id, c.data)
		refusesOpen(t, "tables: "+c.what, d, api.ErrNone)
	}
}

// With one table: what its pairs may not be.
func TestPairsThatAreNone(t *testing.T) {
	const last = math.MaxInt64
	for _, c := range []struct {
		what  string
		bytes []byte
		want  map[int][]byte // nil: refused
	}{
		{"none", nil, map[int][]byte{}},
		{"two", tableOf(0, 0, 8, 5, 10)[4:], map[int][]byte{0: {}, 5: {5}}},
		{"the last logical page", tableOf(0, 727, 6)[4:], map[int][]byte{727: {0}}},
		{"half a pair", tableOf(0, 0)[4:], nil},
		{"a pair and a half", tableOf(0, 0, 8, 5)[4:], nil},
		{"falling", tableOf(0, 5, 10, 0, 8)[4:], nil},
		{"twice the same", tableOf(0, 0, 8, 0, 8)[4:], nil},
		{"a logical page twice, at two pages", tableOf(0, 5, 10, 5, 7)[4:], nil},
		{"a page twice", tableOf(0, 0, 8, 5, 8)[4:], nil},
		{"the table's page", tableOf(0, 0, 4)[4:], nil},
		{"page 0", tableOf(0, 0, 0)[4:], nil},
		{"page 1", tableOf(0, 0, 1)[4:], nil},
		{"beyond", tableOf(0, 0, 11)[4:], nil},
		{"far beyond", tableOf(0, 0, last)[4:], nil},
		{"beyond 32 bits", tableOf(0, 0, 1<<32+8)[4:], nil},
		{"an id that is another's", tableOf(0, 1, 8)[4:], nil},
		{"the other page", tableOf(0, 5, 7)[4:], map[int][]byte{5: {6}}},
		{"an empty page", tableOf(0, 0, 5)[4:], nil},
		{"logical page 728", tableOf(0, 728, 9)[4:], nil},
		{"logical page far beyond", tableOf(0, last, 9)[4:], nil},
		{"logical page beyond 32 bits", tableOf(0, 1<<32, 8)[4:], nil},
		{"logical page of the same id", tableOf(0, 1<<24, 8)[4:], nil},
		{"a number that is none", []byte{0, 8, 128, 0, 10}, nil},
		{"a page's number that is none", []byte{0, 136, 0}, nil},
		{"a number cut off", []byte{0, 8, 133}, nil},
		{"a page's number cut off", []byte{0, 136}, nil},
		{"a number of ten bytes", append(bytes.Repeat([]byte{128}, 9), 1, 8), nil},
	} {
		d := sound(t, 0)
		writeSector(t, d, 0, rootOf(9, 4, 1))
		// A page for the logical page 728, if there were one, and another for 5.
		writePage(t, d, 9, 3+256*728, []byte{1})
		writePage(t, d, 7, 3+256*5, []byte{6})
		writePage(t, d, 4, 2, append(tableOf(0), c.bytes...))
		if c.want == nil {
			refusesOpen(t, "pairs: "+c.what, d, api.ErrNone)
		} else {
			has(t, open(t, d), c.want)
		}
	}
}

func TestDataPagesThatDoNotRead(t *testing.T) {
	for i, p := range map[int]int{0: 8, 5: 10, 130: 2, 727: 6} {
		for _, id := range []uint32{0, 2, 3 + 256*uint32(i+1), 4 + 256*uint32(i), uint32(i), 256 * uint32(i), 3 + 256*uint32(i) + 1<<31} {
			d := sound(t, 0)
			writePage(t, d, p, id, soundData()[i])
			refusesOpen(t, "a data page of another id", d, api.ErrNone)
		}
		for sector := range 4 {
			d := sound(t, 0)
			b, _ := d.Read(4*p + sector)
			b[31] ^= 1
			writeSector(t, d, 4*p+sector, b)
			refusesOpen(t, "a data page whose sum does not fit", d, api.ErrNone)
		}
	}
	for _, p := range []int{3, 4} {
		d := sound(t, 0)
		b, _ := d.Read(4 * p)
		b[0] ^= 128
		writeSector(t, d, 4*p, b)
		refusesOpen(t, "a table page whose sum does not fit", d, api.ErrNone)
	}
}

// Pages that no root names need not read, and sectors behind the last whole page are none.
func TestTheRestOfTheDiskIsFree(t *testing.T) {
	d := sound(t, 0)
	for _, s := range []int{1, 2, 3, 5, 6, 7, 20, 28, 36} {
		writeSector(t, d, s, all(api.SectorSize, 255))
	}
	has(t, open(t, d), soundData())

	d = newDisk(t, 47)
	writeSector(t, d, 0, rootOf(9, 11, 1))
	refusesOpen(t, "a page that is not whole", d, api.ErrNone)
}

func TestEpochsEndAndBeginAnew(t *testing.T) {
	d := newDisk(t, 44)
	writeSector(t, d, 0, rootOf(math.MaxUint64, 0, 0))
	s := open(t, d)
	epoch(t, s, math.MaxUint64)
	is(t, "Put", s.Put(1, []byte{1}), api.OK)
	is(t, "Commit", s.Commit(), api.OK)
	epoch(t, s, 0)
	has(t, s, map[int][]byte{1: {1}})
	if b, _ := d.Read(4); binary.LittleEndian.Uint64(b) != 0 || !bytes.Equal(b, rootOf(0, 3, 1)) {
		t.Errorf("the root is %v", b)
	}
	// A root of epoch 0 does not count: the one ahead of it is still the newest.
	epoch(t, open(t, d), math.MaxUint64)
	is(t, "Commit", s.Commit(), api.OK)
	epoch(t, s, 1)
	epoch(t, open(t, d), 1)
}
