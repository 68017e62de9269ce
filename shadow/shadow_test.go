package shadow_test

import (
	"bytes"
	"encoding/binary"
	"maps"
	"math"
	"slices"
	"testing"

	"quire/api"
	"quire/disk"
	"quire/pages"
	"quire/shadow"
)

func is(t *testing.T, what string, got, want api.Errno) {
	t.Helper()
	if got != want {
		t.Errorf("%s: error %d, want %d", what, got, want)
	}
}

func newDisk(t *testing.T, sectors int) *disk.Disk {
	t.Helper()
	d, e := disk.New(sectors)
	if e != api.OK {
		t.Fatalf("New(%d): %d", sectors, e)
	}
	return d
}

func format(t *testing.T, sectors int) (*disk.Disk, *shadow.Store) {
	t.Helper()
	d := newDisk(t, sectors)
	s, e := shadow.Format(d)
	if e != api.OK || s == nil {
		t.Fatalf("Format of %d sectors: %v, %d", sectors, s, e)
	}
	return d, s
}

func open(t *testing.T, d *disk.Disk) *shadow.Store {
	t.Helper()
	s, e := shadow.Open(d)
	if e != api.OK || s == nil {
		t.Fatalf("Open: %v, %d", s, e)
	}
	return s
}

func refusesFormat(t *testing.T, d *disk.Disk, want api.Errno) {
	t.Helper()
	if s, e := shadow.Format(d); s != nil || e != want {
		t.Errorf("Format: %v, %d, want the error %d alone", s, e, want)
	}
}

func refusesOpen(t *testing.T, what string, d *disk.Disk, want api.Errno) {
	t.Helper()
	if s, e := shadow.Open(d); s != nil || e != want {
		t.Errorf("Open, %s: %v, %d, want the error %d alone", what, s, e, want)
	}
}

func gets(t *testing.T, s *shadow.Store, i int, want []byte) {
	t.Helper()
	if b, e := s.Get(i); !bytes.Equal(b, want) || e != api.OK {
		t.Errorf("Get(%d): %v, %d, want %v", i, b, e, want)
	}
}

func refusesGet(t *testing.T, s *shadow.Store, i int, want api.Errno) {
	t.Helper()
	if b, e := s.Get(i); len(b) != 0 || e != want {
		t.Errorf("Get(%d): %v, %d, want the error %d alone", i, b, e, want)
	}
}

func room(t *testing.T, s *shadow.Store, free, need int) {
	t.Helper()
	if a, b := s.Room(); a != free || b != need {
		t.Errorf("Room: %d, %d, want %d, %d", a, b, free, need)
	}
}

func epoch(t *testing.T, s *shadow.Store, want uint64) {
	t.Helper()
	if n := s.Epoch(); n != want {
		t.Errorf("Epoch: %d, want %d", n, want)
	}
}

// has holds that just these logical pages have data, and which.
func has(t *testing.T, s *shadow.Store, want map[int][]byte) {
	t.Helper()
	list := slices.Sorted(maps.Keys(want))
	if got := slices.Collect(s.Pages()); !slices.Equal(got, list) {
		t.Fatalf("Pages: %v, want %v", got, list)
	}
	for i := range api.MaxLogical {
		if b, ok := want[i]; ok {
			gets(t, s, i, b)
		} else {
			refusesGet(t, s, i, api.ErrNone)
		}
	}
}

// sameStores holds that two stores have the same epoch, room and data.
func sameStores(t *testing.T, a, b *shadow.Store) {
	t.Helper()
	epoch(t, a, b.Epoch())
	free, need := b.Room()
	room(t, a, free, need)
	m := map[int][]byte{}
	for i := range b.Pages() {
		m[i], _ = b.Get(i)
	}
	has(t, a, m)
}

// bytesOf is all sectors of a disk that lives.
func bytesOf(t *testing.T, d *disk.Disk) []byte {
	t.Helper()
	var all []byte
	for s := range d.Len() {
		b, e := d.Read(s)
		is(t, "Read of a sector", e, api.OK)
		all = append(all, b...)
	}
	return all
}

// rootOf is the bytes of a root by another hand.
func rootOf(epoch uint64, first, count int) []byte {
	b := binary.LittleEndian.AppendUint64(nil, epoch)
	b = binary.LittleEndian.AppendUint32(b, uint32(first))
	b = binary.LittleEndian.AppendUint32(b, uint32(count))
	b = binary.LittleEndian.AppendUint64(b, 0)
	return binary.LittleEndian.AppendUint64(b, epoch)
}

// tableOf is the data of a table page by another hand; the pairs stand one behind the other.
func tableOf(next int, pairs ...uint64) []byte {
	b := binary.LittleEndian.AppendUint32(nil, uint32(next))
	for _, n := range pairs {
		b = binary.AppendUvarint(b, n)
	}
	return b
}

func writeSector(t *testing.T, d *disk.Disk, s int, b []byte) {
	t.Helper()
	is(t, "Write of a sector", d.Write(s, b), api.OK)
}

func writePage(t *testing.T, d *disk.Disk, p int, id uint32, data []byte) {
	t.Helper()
	is(t, "Write of a page", pages.Write(d, p, id, data), api.OK)
}

func all(n int, c byte) []byte { return bytes.Repeat([]byte{c}, n) }

// filled is a disk whose sectors, kept, are all of them bytes 255.
func filled(t *testing.T, sectors int) *disk.Disk {
	t.Helper()
	d := newDisk(t, sectors)
	for s := range sectors {
		writeSector(t, d, s, all(api.SectorSize, 255))
	}
	is(t, "Barrier", d.Barrier(), api.OK)
	return d
}

// The examples

func TestExamples(t *testing.T) {
	d, s := format(t, 32)
	epoch(t, s, 1)
	room(t, s, 6, 0)
	is(t, "Put", s.Put(5, []byte{1}), api.OK)
	room(t, s, 6, 2)
	is(t, "Commit", s.Commit(), api.OK)
	epoch(t, s, 2)
	room(t, s, 4, 1)
	gets(t, s, 5, []byte{1})
	x := open(t, d)
	epoch(t, x, 2)
	room(t, x, 4, 1)
	has(t, x, map[int][]byte{5: {1}})
	is(t, "Put", s.Put(5, []byte{2}), api.OK)
	gets(t, s, 5, []byte{2})
	is(t, "Rollback", s.Rollback(), api.OK)
	gets(t, s, 5, []byte{1})

	for i := range 5 {
		is(t, "Put", s.Put(10+i, []byte{3}), api.OK)
	}
	room(t, s, 4, 6)
	is(t, "Commit", s.Commit(), api.ErrFull)
	room(t, s, 4, 6)
	epoch(t, s, 2)
}

// P4.1

func TestFormatRefuses(t *testing.T) {
	refusesFormat(t, nil, api.ErrArg)
	refusesFormat(t, new(disk.Disk), api.ErrFull)
	for sectors := 1; sectors < 12; sectors++ {
		d := newDisk(t, sectors)
		refusesFormat(t, d, api.ErrFull)
		if d.Pending() != 0 || !bytes.Equal(bytesOf(t, d), make([]byte, sectors*api.SectorSize)) {
			t.Errorf("Format wrote to a disk of %d sectors", sectors)
		}
		is(t, "Live", d.Live(0), api.OK)
		refusesFormat(t, d, api.ErrFull)
	}
	d := newDisk(t, 12)
	is(t, "Live", d.Live(0), api.OK)
	refusesFormat(t, d, api.ErrDead)
}

func TestFormatWritesTwoSectors(t *testing.T) {
	for _, sectors := range []int{12, 13, 15, 16, 32, api.MaxSectors} {
		d := filled(t, sectors)
		want := bytesOf(t, d)
		copy(want[4*api.SectorSize:], make([]byte, api.SectorSize))
		copy(want, rootOf(1, 0, 0))
		s, e := shadow.Format(d)
		is(t, "Format", e, api.OK)
		if d.Pending() != 0 {
			t.Errorf("Pending: %d", d.Pending())
		}
		is(t, "Crash", d.Crash(nil, -1, 0), api.OK)
		if got := bytesOf(t, d); !bytes.Equal(got, want) {
			t.Errorf("%d sectors: other bytes than a new root's", sectors)
		}
		epoch(t, s, 1)
		room(t, s, sectors/4-2, 0)
		has(t, s, nil)
		sameStores(t, open(t, d), s)
	}
}

func TestFormatOnADiskThatDies(t *testing.T) {
	before := all(api.SectorSize, 255)
	zeros := make([]byte, api.SectorSize)
	for life, want := range []struct {
		e            api.Errno
		pending      int
		first, other []byte
		kept         []byte // of the sector 4, if the crash loses all it may
	}{
		{api.ErrDead, 0, before, before, before},
		{api.ErrDead, 1, before, zeros, before},
		{api.ErrDead, 0, before, zeros, zeros},
		{api.ErrDead, 1, rootOf(1, 0, 0), zeros, zeros},
		{api.OK, 0, rootOf(1, 0, 0), zeros, zeros},
	} {
		d := filled(t, 12)
		is(t, "Live", d.Live(life), api.OK)
		s, e := shadow.Format(d)
		is(t, "Format", e, want.e)
		if (s == nil) != (e != api.OK) || d.Pending() != want.pending {
			t.Errorf("life %d: store %v beside error %d, pending %d", life, s, e, d.Pending())
		}
		lost := d.Copy()
		is(t, "Live", d.Live(-1), api.OK)
		got := bytesOf(t, d)
		if !bytes.Equal(got[:api.SectorSize], want.first) || !bytes.Equal(got[4*api.SectorSize:5*api.SectorSize], want.other) {
			t.Errorf("life %d: roots are %v and %v", life, got[:api.SectorSize], got[4*api.SectorSize:5*api.SectorSize])
		}
		is(t, "Crash", lost.Crash(nil, -1, 0), api.OK)
		if b, _ := lost.Read(4); !bytes.Equal(b, want.kept) {
			t.Errorf("life %d: sector 4 is kept as %v", life, b)
		}
	}
}

func TestFormatForgetsAnOlderStore(t *testing.T) {
	d, s := format(t, 64)
	for i := range 7 {
		is(t, "Put", s.Put(i, []byte{byte(i)}), api.OK)
		is(t, "Commit", s.Commit(), api.OK)
		x, e := shadow.Format(d)
		is(t, "Format", e, api.OK)
		has(t, x, nil)
		sameStores(t, open(t, d), x)
		epoch(t, x, 1)
		room(t, x, 14, 0)
		s = x
	}
}

func TestOpenRefuses(t *testing.T) {
	refusesOpen(t, "of nil", nil, api.ErrArg)
	refusesOpen(t, "of a disk that New did not make", new(disk.Disk), api.ErrDead)
	for sectors := 1; sectors <= 16; sectors++ {
		d := newDisk(t, sectors)
		refusesOpen(t, "of a new disk", d, api.ErrNone)
		writeSector(t, d, 0, rootOf(1, 0, 0))
		if sectors < 12 {
			refusesOpen(t, "of too few pages", d, api.ErrNone)
		} else {
			open(t, d)
		}
		is(t, "Live", d.Live(0), api.OK)
		refusesOpen(t, "of a dead disk", d, api.ErrDead)
		is(t, "Live", d.Live(1), api.OK)
		if sectors >= 12 {
			open(t, d)
		}
	}
}

func TestOpenWritesNothing(t *testing.T) {
	d, s := format(t, 32)
	is(t, "Put", s.Put(5, []byte{1}), api.OK)
	is(t, "Commit", s.Commit(), api.OK)
	writeSector(t, d, 31, all(api.SectorSize, 9))
	before := bytesOf(t, d)
	is(t, "Live", d.Live(1), api.OK)
	open(t, d)
	if d.Pending() != 1 || !bytes.Equal(bytesOf(t, d), before) {
		t.Errorf("Open changed the disk: pending %d", d.Pending())
	}
}

func TestOpenTakesTheNewestRoot(t *testing.T) {
	for _, c := range []struct {
		first, second uint64
		takes         int
	}{
		{1, 0, 0}, {0, 1, 4}, {1, 2, 4}, {2, 1, 0}, {7, 7, 0}, {255, 256, 4}, {256, 255, 0},
		{1 << 63, 1<<63 - 1, 0}, {1<<63 - 1, 1 << 63, 4}, {math.MaxUint64, 1, 0}, {1, math.MaxUint64, 4},
	} {
		d := newDisk(t, 32)
		writeSector(t, d, 0, rootOf(c.first, 0, 0))
		writeSector(t, d, 4, rootOf(c.second, 3, 1))
		writePage(t, d, 3, 2, tableOf(0, 9, 5))
		writePage(t, d, 5, 3+256*9, []byte{1})
		s := open(t, d)
		want := c.first
		if c.takes == 0 {
			has(t, s, nil)
			room(t, s, 6, 0)
		} else {
			want = c.second
			has(t, s, map[int][]byte{9: {1}})
			room(t, s, 4, 1)
		}
		epoch(t, s, want)
		is(t, "Commit", s.Commit(), api.OK)
		epoch(t, s, want+1)
		if b, _ := d.Read(c.takes); binary.LittleEndian.Uint64(b) != want {
			t.Errorf("%v: the committed root became %v", c, b)
		}
		if b, _ := d.Read(4 - c.takes); binary.LittleEndian.Uint64(b) != want+1 {
			t.Errorf("%v: the other root became %v", c, b)
		}
	}
}

func TestARootThatDoesNotCountGivesWayToAnOlderOne(t *testing.T) {
	for _, newer := range []int{0, 4} {
		d := newDisk(t, 32)
		writeSector(t, d, 4-newer, rootOf(8, 2, 1))
		writePage(t, d, 2, 2, tableOf(0, 700, 7))
		writePage(t, d, 7, 3+256*700, []byte{5, 6})
		writeSector(t, d, newer, rootOf(9, 3, 1))
		s := open(t, d)
		epoch(t, s, 8)
		has(t, s, map[int][]byte{700: {5, 6}})
		is(t, "Commit", s.Commit(), api.OK)
		if b, _ := d.Read(newer); !bytes.Equal(b, rootOf(9, 3, 1)) {
			t.Errorf("the new root is %v", b)
		}
		epoch(t, open(t, d), 9)
	}
}
