package shadow_test

import (
	"bytes"
	"slices"
	"testing"

	"quire/api"
	"quire/disk"
	"quire/shadow"
	"quire/sum"
)

func put(t *testing.T, s *shadow.Store, from, to int) {
	t.Helper()
	for i := from; i < to; i++ {
		is(t, "Put", s.Put(i, []byte{byte(i), byte(i >> 8)}), api.OK)
	}
}

// P4.3

func TestRoomCountsWhatWasPut(t *testing.T) {
	_, s := format(t, 64)
	put(t, s, 0, 3)
	room(t, s, 14, 4)
	put(t, s, 0, 3) // once more
	room(t, s, 14, 4)
	is(t, "Drop", s.Drop(1), api.OK)
	room(t, s, 14, 3)
	is(t, "Commit", s.Commit(), api.OK)
	room(t, s, 11, 1)
	gets(t, s, 0, []byte{0, 0})
	put(t, s, 0, 1) // the same data
	room(t, s, 11, 2)
	is(t, "Drop", s.Drop(0), api.OK)
	room(t, s, 11, 1)
	is(t, "Drop", s.Drop(2), api.OK)
	room(t, s, 11, 0)
	is(t, "Put", s.Put(2, nil), api.OK)
	room(t, s, 11, 2)
	is(t, "Drop", s.Drop(2), api.OK)
	is(t, "Commit", s.Commit(), api.OK)
	room(t, s, 14, 0)
}

func TestRoomCountsWholePagesOnly(t *testing.T) {
	for sectors := 12; sectors < 40; sectors++ {
		d, s := format(t, sectors)
		room(t, s, sectors/4-2, 0)
		is(t, "Live", d.Live(0), api.OK)
		room(t, s, sectors/4-2, 0)
	}
}

// With numbers of one byte each, 56 logical pages fill a table page.
func TestRoomCountsTables(t *testing.T) {
	_, s := format(t, 4*1000)
	need := func(n int) {
		t.Helper()
		is(t, "Rollback", s.Rollback(), api.OK)
		put(t, s, 0, n)
		// By another hand: logical pages and pages below 128 take a byte, others two; page 2 is the first.
		size := 0
		for i := range n {
			size += 2
			if i >= 128 {
				size++
			}
			if i+2 >= 128 {
				size++
			}
		}
		room(t, s, 998, n+(size+111)/112)
	}
	for n := range 250 {
		need(n)
	}
	for _, n := range []int{55, 56, 57} {
		is(t, "Rollback", s.Rollback(), api.OK)
		put(t, s, 0, n)
		room(t, s, 998, n+1+n/57)
	}
	need(api.MaxLogical)
}

// Numbers of two bytes: those of the pages that a commit would write count, not those of the pages that would be written last.
func TestRoomTakesTheNumbersThatAreWritten(t *testing.T) {
	_, s := format(t, 4*300)
	put(t, s, 100, 156)
	room(t, s, 298, 56+2) // 28 logical pages from 128 on: 140 bytes
	is(t, "Rollback", s.Rollback(), api.OK)
	put(t, s, 0, 56)
	room(t, s, 298, 56+1)
}

func TestRoomWhereThereIsNone(t *testing.T) {
	// 130 pages, 128 of them free: the last is the page 129, a number of two bytes.
	_, s := format(t, 4*130)
	put(t, s, 0, 128)
	// Just room for the data, but not for the three table pages beside it: each of the pages has a number of two bytes.
	room(t, s, 128, 128+4)
	is(t, "Commit", s.Commit(), api.ErrFull)
	put(t, s, 128, 129)
	// No room even for the data.
	room(t, s, 128, 129+4)
	is(t, "Commit", s.Commit(), api.ErrFull)
	is(t, "Rollback", s.Rollback(), api.OK)

	// What was committed keeps its number.
	put(t, s, 0, 100)
	is(t, "Commit", s.Commit(), api.OK)
	room(t, s, 26, 2)
	put(t, s, 0, 27)
	room(t, s, 26, 27+(27*3+73*2+111)/112)
	put(t, s, 0, 55)
	room(t, s, 26, 55+(55*3+45*2+111)/112)
	put(t, s, 0, 79)
	room(t, s, 26, 79+(79*3+21*2+111)/112)

	// On a disk of 128 pages all numbers are of one byte.
	_, s = format(t, 4*128)
	put(t, s, 0, 127)
	room(t, s, 126, 127+3)
}

// Data and tables together decide whether there is room, just at the edge too.
func TestRoomAtTheEdge(t *testing.T) {
	for size := 100; size < 300; size++ {
		_, s := format(t, 4*size)
		free := size - 2
		had := true
		for n := free - 8; n <= free+1; n++ {
			is(t, "Rollback", s.Rollback(), api.OK)
			put(t, s, 0, n)
			count := func(place func(i int) int) int {
				bytes := 0
				for i := range n {
					bytes += len(sum.Number(uint64(i))) + len(sum.Number(uint64(place(i))))
				}
				return n + (bytes+111)/112
			}
			need := count(func(i int) int { return i + 2 })
			fits := need <= free
			if !fits {
				need = count(func(int) int { return size - 1 })
			}
			room(t, s, free, need)
			if fits && !had {
				t.Fatalf("%d pages: %d fit, but fewer do not", size, n)
			}
			had = fits
			if !fits {
				is(t, "Commit", s.Commit(), api.ErrFull)
				room(t, s, free, need)
			}
		}
		if had {
			t.Fatalf("%d pages: all fit", size)
		}
	}
}

// Where nothing was put, no page has another number than its own.
func TestRoomForTablesOnly(t *testing.T) {
	_, s := format(t, 4*135)
	put(t, s, 0, 129) // one logical page and three pages have numbers of two bytes: 262 bytes
	room(t, s, 133, 132)
	is(t, "Commit", s.Commit(), api.OK)
	room(t, s, 1, 3)
	is(t, "Commit", s.Commit(), api.ErrFull)
	is(t, "Drop", s.Drop(0), api.OK)
	room(t, s, 1, 3)
	put(t, s, 0, 1)
	room(t, s, 1, 4)
}

func TestRoomOfASmallDisk(t *testing.T) {
	_, s := format(t, 12)
	room(t, s, 1, 0)
	is(t, "Commit", s.Commit(), api.OK)
	put(t, s, 0, 1)
	room(t, s, 1, 2)
	is(t, "Commit", s.Commit(), api.ErrFull)
	put(t, s, 0, api.MaxLogical)
	room(t, s, 1, api.MaxLogical+(128*2+600*3+111)/112)
	is(t, "Commit", s.Commit(), api.ErrFull)
	epoch(t, s, 2)
	is(t, "Rollback", s.Rollback(), api.OK)
	is(t, "Commit", s.Commit(), api.OK)
}

// P4.4

func TestCommitTakesThePagesThatAreFree(t *testing.T) {
	d, s := format(t, 4*9)
	want := bytesOf(t, d)
	expect := func(what string) {
		t.Helper()
		if d.Pending() != 0 || !bytes.Equal(bytesOf(t, d), want) {
			t.Fatalf("%s: other bytes on the disk", what)
		}
	}
	lays := func(p int, id uint32, data []byte) {
		x := newDisk(t, 4)
		writePage(t, x, 0, id, data)
		copy(want[p*api.PageSize:], bytesOf(t, x))
	}
	roots := func(sector int, epoch uint64, first, count int) {
		copy(want[sector*api.SectorSize:], rootOf(epoch, first, count))
	}
	is(t, "Put", s.Put(300, []byte{1}), api.OK)
	is(t, "Put", s.Put(7, []byte{2}), api.OK)
	expect("behind Put")
	is(t, "Commit", s.Commit(), api.OK)
	lays(2, 3+256*7, []byte{2})
	lays(3, 3+256*300, []byte{1})
	lays(4, 2, tableOf(0, 7, 2, 300, 3))
	roots(4, 2, 4, 1)
	expect("first Commit")

	is(t, "Put", s.Put(7, []byte{3}), api.OK)
	is(t, "Commit", s.Commit(), api.OK)
	lays(5, 3+256*7, []byte{3})
	lays(6, 2, tableOf(0, 7, 5, 300, 3))
	roots(0, 3, 6, 1)
	expect("second Commit")

	is(t, "Commit", s.Commit(), api.OK)
	lays(2, 2, tableOf(0, 7, 5, 300, 3))
	roots(4, 4, 2, 1)
	expect("a Commit without anything put")

	is(t, "Drop", s.Drop(300), api.OK)
	is(t, "Put", s.Put(9, nil), api.OK)
	is(t, "Put", s.Put(0, []byte{4}), api.OK)
	// 3 is still in use by what is committed.
	room(t, s, 4, 3)
	is(t, "Commit", s.Commit(), api.OK)
	lays(4, 3, []byte{4})
	lays(6, 3+256*9, nil)
	lays(7, 2, tableOf(0, 0, 4, 7, 5, 9, 6))
	roots(0, 5, 7, 1)
	expect("a Commit with gaps")

	for _, i := range []int{0, 7, 9} {
		is(t, "Drop", s.Drop(i), api.OK)
	}
	is(t, "Commit", s.Commit(), api.OK)
	roots(4, 6, 0, 0)
	expect("a Commit of nothing")
	room(t, s, 7, 0)
	sameStores(t, open(t, d), s)
}

func TestCommitChainsTables(t *testing.T) {
	d, s := format(t, 4*400)
	put(t, s, 100, 250)
	is(t, "Commit", s.Commit(), api.OK)
	// Data at the pages 2 to 151, and 28*2 + 98*3 + 24*4 bytes of the table in the four pages behind.
	var table []byte
	for i := range uint64(150) {
		table = append(table, tableOf(0, 100+i, 2+i)[4:]...)
	}
	if len(table) != 446 {
		t.Fatalf("the table has %d bytes", len(table))
	}
	for k, next := range []int{153, 154, 155, 0} {
		x := newDisk(t, 4)
		writePage(t, x, 0, 2, append(tableOf(next), table[112*k:min(112*k+112, 446)]...))
		got := bytesOf(t, d)[(152+k)*api.PageSize:][:api.PageSize]
		if !bytes.Equal(got, bytesOf(t, x)) {
			t.Errorf("table page %d is %v", k, got)
		}
	}
	if b, _ := d.Read(4); !bytes.Equal(b, rootOf(2, 152, 4)) {
		t.Errorf("the root is %v", b)
	}
	sameStores(t, open(t, d), s)
	room(t, s, 398-154, 4)
}

func TestAStoreOfAllLogicalPages(t *testing.T) {
	d, s := format(t, api.MaxSectors)
	want := map[int][]byte{}
	for i := range api.MaxLogical {
		want[i] = all(i%(api.MaxData+1), byte(i))
		is(t, "Put", s.Put(i, want[i]), api.OK)
	}
	is(t, "Commit", s.Commit(), api.OK)
	has(t, s, want)
	has(t, open(t, d), want)
	is(t, "Commit", s.Commit(), api.OK)
	sameStores(t, open(t, d), s)
}

func TestCommitOnAFullDisk(t *testing.T) {
	d, s := format(t, 4*5) // three pages
	put(t, s, 0, 2)
	room(t, s, 3, 3)
	is(t, "Commit", s.Commit(), api.OK)
	room(t, s, 0, 1)
	before := bytesOf(t, d)
	is(t, "Commit without room for a table", s.Commit(), api.ErrFull)
	is(t, "Drop", s.Drop(0), api.OK)
	is(t, "Commit without room for a table", s.Commit(), api.ErrFull)
	room(t, s, 0, 1)
	if d.Pending() != 0 || !bytes.Equal(bytesOf(t, d), before) {
		t.Error("a Commit that is refused wrote")
	}
	epoch(t, s, 2)
	has(t, s, map[int][]byte{1: {1, 0}})
	// Without data there is no table to write.
	is(t, "Drop", s.Drop(1), api.OK)
	room(t, s, 0, 0)
	is(t, "Commit", s.Commit(), api.OK)
	room(t, s, 3, 0)
	has(t, open(t, d), nil)
}

func TestCommitOnADeadDisk(t *testing.T) {
	// A disk that died by itself is told only when it refuses: what is put and told goes on till then.
	d, s := format(t, 4*6)
	put(t, s, 0, 1)
	is(t, "Commit", s.Commit(), api.OK)
	is(t, "Live", d.Live(0), api.OK)
	has(t, s, map[int][]byte{0: {0, 0}})
	put(t, s, 1, 9)
	room(t, s, 2, 9)
	is(t, "Commit of too much", s.Commit(), api.ErrFull)
	epoch(t, s, 2)
	is(t, "Rollback", s.Rollback(), api.OK)
	is(t, "Commit", s.Commit(), api.ErrDead)
	refusesAll(t, s, api.ErrDead)
	// It stays so, though the disk may live again.
	is(t, "Live", d.Live(-1), api.OK)
	refusesAll(t, s, api.ErrDead)
	is(t, "Crash", d.Crash(nil, -1, 0), api.OK)
	refusesAll(t, s, api.ErrDead)
	has(t, open(t, d), map[int][]byte{0: {0, 0}})
}

// Each life ends within a Commit of another write; the last one just carries it out.
func TestTheOrderOfWrites(t *testing.T) {
	whole := func() (*disk.Disk, *shadow.Store) {
		d, s := format(t, 4*8)
		put(t, s, 4, 5)
		is(t, "Commit", s.Commit(), api.OK)
		put(t, s, 4, 6)
		return d, s
	}
	old := map[int][]byte{4: {4, 0}}
	// Eight sectors of data, four of a table, a barrier, a root, a barrier.
	const writes = 15
	for life := range writes + 2 {
		d, s := whole()
		before := bytesOf(t, d)
		is(t, "Live", d.Live(life), api.OK)
		seq := s.Pages()
		e := s.Commit()
		if told := slices.Collect(seq); !slices.Equal(told, []int{4, 5}) {
			t.Errorf("life %d: an iterator of an earlier call tells %v", life, told)
		}
		if e == api.OK && life < writes || e != api.OK && life >= writes {
			t.Fatalf("life %d: Commit: %d", life, e)
		}
		pending := []int{0, 1, 2, 3, 4, 5, 6, 7, 8, 9, 10, 11, 12, 0, 1, 0, 0}[life]
		if d.Pending() != pending {
			t.Errorf("life %d: Pending: %d, want %d", life, d.Pending(), pending)
		}
		if e == api.OK {
			epoch(t, s, 3)
			continue
		}
		is(t, "Commit", e, api.ErrDead)
		refusesAll(t, s, api.ErrDead)
		is(t, "Live", d.Live(-1), api.OK)
		checkSectors(t, life, before, bytesOf(t, d))
		is(t, "Crash", d.Crash(nil, -1, 0), api.OK)
		has(t, open(t, d), old)
	}
}

// checkSectors holds that of the commit's sectors just the first so many were written.
func checkSectors(t *testing.T, life int, before, after []byte) {
	t.Helper()
	order := []int{16, 17, 18, 19, 20, 21, 22, 23, 24, 25, 26, 27, -1, 0, -1}
	want := map[int]int{}
	for _, s := range order[:min(life, len(order))] {
		want[s] = 1
	}
	for s := range len(before) / api.SectorSize {
		same := bytes.Equal(before[s*api.SectorSize:][:api.SectorSize], after[s*api.SectorSize:][:api.SectorSize])
		if !same && want[s] == 0 {
			t.Errorf("life %d: sector %d was written", life, s)
		}
		// The first sector of each page has a sum, which was 0 before.
		if same && want[s] == 1 && s%4 == 0 {
			t.Errorf("life %d: sector %d was not written", life, s)
		}
	}
}
