package pages_test

import (
	"bytes"
	"math"
	"math/rand"
	"testing"

	"quire/api"
	"quire/disk"
	"quire/pages"
)

// P3.2

func newDisk(t *testing.T, sectors int) *disk.Disk {
	t.Helper()
	d, e := disk.New(sectors)
	if e != api.OK {
		t.Fatalf("New(%d): %d", sectors, e)
	}
	return d
}

// diskOf is a disk whose sectors, kept, have all bytes other than 0, no two sectors the same.
func diskOf(t *testing.T, sectors int) *disk.Disk {
	t.Helper()
	d := newDisk(t, sectors)
	for s := range sectors {
		is(t, "Write", d.Write(s, bytes.Repeat([]byte{byte(s + 100)}, api.SectorSize)), api.OK)
	}
	is(t, "Barrier", d.Barrier(), api.OK)
	return d
}

// bytesOf is all sectors of a disk that lives.
func bytesOf(t *testing.T, d *disk.Disk) []byte {
	t.Helper()
	var all []byte
	for s := range d.Len() {
		b, e := d.Read(s)
		is(t, "Read of a sector", e, api.OK)
		all = append(all, b...)
	}
	return all
}

func reads(t *testing.T, d *disk.Disk, p int, id uint32, data []byte) {
	t.Helper()
	if i, b, e := pages.Read(d, p); i != id || !bytes.Equal(b, data) || e != api.OK {
		t.Errorf("Read(%d): %d, %v, %d, want %d, %v", p, i, b, e, id, data)
	}
}

// refusesRead holds that Read answers the error and nothing beside it.
func refusesRead(t *testing.T, d *disk.Disk, p int, want api.Errno) {
	t.Helper()
	if id, data, e := pages.Read(d, p); id != 0 || len(data) != 0 || e != want {
		t.Errorf("Read(%d): %d, %v, %d, want the error %d alone", p, id, data, e, want)
	}
}

func TestCount(t *testing.T) {
	for sectors, want := range map[int]int{1: 0, 2: 0, 3: 0, 4: 1, 5: 1, 7: 1, 8: 2, 9: 2, 11: 2, 12: 3, api.MaxSectors - 1: api.MaxSectors/4 - 1, api.MaxSectors: api.MaxSectors / 4} {
		d := newDisk(t, sectors)
		for range 2 { // living, and dead
			if n := pages.Count(d); n != want {
				t.Errorf("Count of %d sectors: %d, want %d", sectors, n, want)
			}
			is(t, "Live", d.Live(0), api.OK)
		}
	}
	if n := pages.Count(nil); n != 0 {
		t.Errorf("Count(nil): %d", n)
	}
	if n := pages.Count(new(disk.Disk)); n != 0 {
		t.Errorf("Count of a disk that New did not make: %d", n)
	}
}

func TestWriteLaysFourSectorsSideBySide(t *testing.T) {
	for _, sectors := range []int{12, 13, 15} {
		for p := range 3 {
			d := diskOf(t, sectors)
			want := bytesOf(t, d)
			copy(want[p*api.PageSize:], page(0x01020304, count(api.MaxData)))
			is(t, "Write", pages.Write(d, p, 0x01020304, count(api.MaxData)), api.OK)
			if got := bytesOf(t, d); !bytes.Equal(got, want) {
				t.Errorf("page %d: the disk is %v, want %v", p, got, want)
			}
			reads(t, d, p, 0x01020304, count(api.MaxData))
			if d.Pending() != 4 {
				t.Errorf("Pending: %d", d.Pending())
			}
		}
	}
}

func TestWriteOfFewBytesClearsThePage(t *testing.T) {
	d := diskOf(t, 8)
	for _, data := range [][]byte{count(api.MaxData), count(3), {}, nil, {0}} {
		is(t, "Write", pages.Write(d, 1, 5, data), api.OK)
		reads(t, d, 1, 5, data)
		if got := bytesOf(t, d)[api.PageSize:]; !bytes.Equal(got, page(5, data)) {
			t.Errorf("the page is %v", got)
		}
	}
	if d.Pending() != 20 {
		t.Errorf("Pending: %d", d.Pending())
	}
}

func TestWriteAndReadOfTheLastPage(t *testing.T) {
	d := newDisk(t, api.MaxSectors)
	last := api.MaxSectors/4 - 1
	is(t, "Write", pages.Write(d, last, math.MaxUint32, []byte{1}), api.OK)
	reads(t, d, last, math.MaxUint32, []byte{1})
	refusesRead(t, d, last+1, api.ErrRange)
	is(t, "Write", pages.Write(d, last+1, 1, nil), api.ErrRange)
}

// outside has numbers of no page of a disk of n pages, those among them whose fourfold wraps round to a sector.
func outside(n int) []int {
	return []int{math.MinInt, math.MinInt / 2, math.MinInt / 4, -2, -1, n, n + 1, 4 * n, math.MaxInt/4 + 1, math.MaxInt/2 + 1, math.MaxInt}
}

func TestPagesOutside(t *testing.T) {
	for sectors := 1; sectors <= 9; sectors++ {
		d := diskOf(t, sectors)
		was := bytesOf(t, d)
		for _, p := range outside(sectors / 4) {
			is(t, "Write", pages.Write(d, p, 1, []byte{1}), api.ErrRange)
			refusesRead(t, d, p, api.ErrRange)
		}
		if d.Pending() != 0 || !bytes.Equal(bytesOf(t, d), was) {
			t.Errorf("a disk of %d sectors has changed", sectors)
		}
	}
	is(t, "Write to no sectors", pages.Write(new(disk.Disk), 0, 1, nil), api.ErrRange)
	refusesRead(t, new(disk.Disk), 0, api.ErrRange)
}

func TestWriteRefusesTooMuch(t *testing.T) {
	d := diskOf(t, 8)
	was := bytesOf(t, d)
	is(t, "Live", d.Live(4), api.OK)
	for _, n := range []int{api.MaxData + 1, api.PageSize, 5000} {
		is(t, "Write", pages.Write(d, 1, 1, make([]byte, n)), api.ErrLarge)
	}
	if d.Pending() != 0 || !bytes.Equal(bytesOf(t, d), was) {
		t.Error("the disk has changed")
	}
	is(t, "Write of what fits", pages.Write(d, 1, 1, make([]byte, api.MaxData)), api.OK)
}

func TestNilDisk(t *testing.T) {
	for _, p := range append(outside(1), 0, 1) {
		is(t, "Write", pages.Write(nil, p, 1, nil), api.ErrArg)
		is(t, "Write of too much", pages.Write(nil, p, 1, make([]byte, api.MaxData+1)), api.ErrArg)
		refusesRead(t, nil, p, api.ErrArg)
	}
}

// The chapter tells ErrRange and ErrLarge ahead of what a dead disk refuses.
func TestWhichErrorOfSeveral(t *testing.T) {
	d := newDisk(t, 8)
	large := make([]byte, api.MaxData+1)
	for range 2 { // living, and dead
		for _, p := range outside(2) {
			is(t, "Write of too much outside", pages.Write(d, p, 1, large), api.ErrRange)
			is(t, "Write outside", pages.Write(d, p, 1, nil), api.ErrRange)
			refusesRead(t, d, p, api.ErrRange)
		}
		is(t, "Write of too much", pages.Write(d, 1, 1, large), api.ErrLarge)
		is(t, "Live", d.Live(0), api.OK)
	}
	is(t, "Write", pages.Write(d, 1, 1, nil), api.ErrDead)
	refusesRead(t, d, 1, api.ErrDead)
}

func TestWriteGoesAsFarAsTheDiskLives(t *testing.T) {
	for life := range 6 {
		d := diskOf(t, 12)
		want := bytesOf(t, d)
		is(t, "Live", d.Live(life), api.OK)
		written, e := min(life, 4), api.ErrDead
		if life >= 4 {
			e = api.OK
		}
		is(t, "Write", pages.Write(d, 1, 7, count(100)), e)
		if d.Pending() != written {
			t.Errorf("life %d: Pending %d", life, d.Pending())
		}
		if life > 4 {
			reads(t, d, 1, 7, count(100))
		} else {
			refusesRead(t, d, 1, api.ErrDead)
		}
		is(t, "Live", d.Live(-1), api.OK)
		copy(want[api.PageSize:], page(7, count(100))[:written*api.SectorSize])
		if got := bytesOf(t, d); !bytes.Equal(got, want) {
			t.Errorf("life %d: the disk is %v, want %v", life, got, want)
		}
		if life < 4 {
			refusesRead(t, d, 1, api.ErrSum)
		}
	}
}

// Which writes were pending, and in which order, a crash that keeps one of them tells.
func TestSectorsAreWrittenInOrder(t *testing.T) {
	for i := range 4 {
		d := diskOf(t, 8)
		want := bytesOf(t, d)
		is(t, "Write", pages.Write(d, 1, 7, count(api.MaxData)), api.OK)
		keep := make([]bool, 4)
		keep[i] = true
		is(t, "Crash", d.Crash(keep, i, 20), api.OK)
		at := api.PageSize + i*api.SectorSize
		copy(want[at:], page(7, count(api.MaxData))[i*api.SectorSize:][:20])
		if got := bytesOf(t, d); !bytes.Equal(got, want) {
			t.Errorf("write %d: the disk is %v, want %v", i, got, want)
		}
		refusesRead(t, d, 1, api.ErrSum)
	}
}

func TestReadIsUnpackOfTheSectors(t *testing.T) {
	whole := [][]byte{
		page(7, []byte{1, 2}),
		page(0, nil),
		page(math.MaxUint32, count(api.MaxData)),
		make([]byte, api.PageSize),
		laid(7, api.MaxData+1, nil),
		laid(7, math.MaxUint32, nil),
		laid(7, 1, []byte{1, 2}),
		bytes.Repeat([]byte{255}, api.PageSize),
	}
	d := newDisk(t, 4*len(whole)+3)
	for s := range 4 * len(whole) {
		is(t, "Write", d.Write(s, whole[s/4][s%4*api.SectorSize:][:api.SectorSize]), api.OK)
	}
	for range 2 { // pending, and kept
		for p, b := range whole {
			id, data, e := pages.Unpack(b)
			if e == api.OK {
				reads(t, d, p, id, data)
			} else {
				refusesRead(t, d, p, e)
			}
		}
		is(t, "Barrier", d.Barrier(), api.OK)
	}
}

func TestReadTellsEachTornSector(t *testing.T) {
	d := newDisk(t, 8)
	is(t, "Write", pages.Write(d, 1, 7, count(api.MaxData)), api.OK)
	is(t, "Barrier", d.Barrier(), api.OK)
	for s := range 4 {
		was, _ := d.Read(4 + s)
		for i := range was {
			was[i] ^= 16
			is(t, "Write", d.Write(4+s, was), api.OK)
			refusesRead(t, d, 1, api.ErrSum)
			was[i] ^= 16
		}
		is(t, "Write", d.Write(4+s, was), api.OK)
	}
	reads(t, d, 1, 7, count(api.MaxData))
}

func TestReadChangesNothing(t *testing.T) {
	d := newDisk(t, 8)
	is(t, "Write", pages.Write(d, 0, 7, []byte{1}), api.OK)
	is(t, "Live", d.Live(1), api.OK)
	for range 3 {
		reads(t, d, 0, 7, []byte{1})
		refusesRead(t, d, 1, api.ErrSum)
	}
	if d.Pending() != 4 {
		t.Errorf("Pending: %d", d.Pending())
	}
	is(t, "Barrier", d.Barrier(), api.OK)
	refusesRead(t, d, 0, api.ErrDead)
}

func TestWriteKeepsACopyAndReadAnswersOne(t *testing.T) {
	d := newDisk(t, 4)
	data := []byte{1, 2, 3}
	is(t, "Write", pages.Write(d, 0, 7, data), api.OK)
	data[0] = 9
	_, out, _ := pages.Read(d, 0)
	_, again, _ := pages.Read(d, 0)
	scribble(out, 200)
	if !bytes.Equal(again, []byte{1, 2, 3}) {
		t.Errorf("two answers share memory: %v", again)
	}
	reads(t, d, 0, 7, []byte{1, 2, 3})
}

// Whatever is written where, each page that was written reads as what was written there last.
func TestPagesAreTheirOwn(t *testing.T) {
	type part struct {
		id   uint32
		data []byte
	}
	r := rand.New(rand.NewSource(2))
	d := newDisk(t, 4*9+2)
	last := map[int]part{}
	for range 500 {
		p := r.Intn(9)
		x := part{r.Uint32(), make([]byte, r.Intn(api.MaxData+1))}
		for i := range x.data {
			x.data[i] = byte(r.Intn(256))
		}
		is(t, "Write", pages.Write(d, p, x.id, x.data), api.OK)
		last[p] = x
		for p := range 9 {
			if x, ok := last[p]; ok {
				reads(t, d, p, x.id, x.data)
			} else {
				refusesRead(t, d, p, api.ErrSum)
			}
		}
	}
}
