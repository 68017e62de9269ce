package disk_test

import (
	"bytes"
	"math"
	"slices"
	"testing"

	"quire/api"
	"quire/disk"
)

func full(b byte) []byte { return bytes.Repeat([]byte{b}, api.SectorSize) }

// tornFrom is what a sector of bytes below becomes when the first cut bytes of a write of bytes above are done.
func tornFrom(above, below byte, cut int) []byte {
	return append(full(above)[:cut:cut], full(below)[cut:]...)
}

func newDisk(t *testing.T, sectors int) *disk.Disk {
	t.Helper()
	d, e := disk.New(sectors)
	if e != api.OK || d == nil {
		t.Fatalf("New(%d): %v, %d", sectors, d, e)
	}
	return d
}

func write(t *testing.T, d *disk.Disk, s int, b byte) {
	t.Helper()
	if e := d.Write(s, full(b)); e != api.OK {
		t.Fatalf("Write(%d, %d..): %d", s, b, e)
	}
}

func is(t *testing.T, what string, got, want api.Errno) {
	t.Helper()
	if got != want {
		t.Errorf("%s: error %d, want %d", what, got, want)
	}
}

func holds(t *testing.T, d *disk.Disk, s int, want []byte) {
	t.Helper()
	if b, e := d.Read(s); e != api.OK || !bytes.Equal(b, want) {
		t.Errorf("Read(%d): %v, %d, want %v", s, b, e, want)
	}
}

func pends(t *testing.T, d *disk.Disk, want int) {
	t.Helper()
	if n := d.Pending(); n != want {
		t.Errorf("Pending: %d, want %d", n, want)
	}
}

// refusesRead holds that Read answers the error and nothing beside it.
func refusesRead(t *testing.T, d *disk.Disk, s int, want api.Errno) {
	t.Helper()
	if b, e := d.Read(s); e != want || len(b) != 0 {
		t.Errorf("Read(%d): %v, %d, want the error %d alone", s, b, e, want)
	}
}

// P1.1

func TestNewRefusesCountsOutside(t *testing.T) {
	for _, n := range []int{math.MinInt, -1, 0, api.MaxSectors + 1, math.MaxInt} {
		if d, e := disk.New(n); d != nil || e != api.ErrArg {
			t.Errorf("New(%d): %v, %d", n, d, e)
		}
	}
}

func TestNewDiskIsZeroAndEndless(t *testing.T) {
	for _, n := range []int{1, 2, 3, 100, api.MaxSectors - 1, api.MaxSectors} {
		d := newDisk(t, n)
		if d.Len() != n {
			t.Errorf("Len: %d, want %d", d.Len(), n)
		}
		pends(t, d, 0)
		for s := range n {
			holds(t, d, s, full(0))
		}
		refusesRead(t, d, n, api.ErrRange)
	}
	d := newDisk(t, 3)
	for i := range 5000 {
		write(t, d, i%3, byte(i))
		pends(t, d, i+1)
	}
	for range 5000 {
		is(t, "Barrier", d.Barrier(), api.OK)
	}
	if d.Len() != 3 {
		t.Errorf("Len has become %d", d.Len())
	}
}

func TestDisksShareNothing(t *testing.T) {
	c, d := newDisk(t, 2), newDisk(t, 2)
	write(t, c, 1, 7)
	is(t, "Live", c.Live(0), api.OK)
	holds(t, d, 1, full(0))
	pends(t, d, 0)
	write(t, d, 0, 1)
}

// P1.2

func TestReadSeesTheLastWrite(t *testing.T) {
	d := newDisk(t, 3)
	write(t, d, 0, 1)
	write(t, d, 2, 2)
	write(t, d, 0, 3)
	holds(t, d, 0, full(3))
	holds(t, d, 1, full(0))
	holds(t, d, 2, full(2))
	pends(t, d, 3)
	is(t, "Barrier", d.Barrier(), api.OK)
	pends(t, d, 0)
	holds(t, d, 0, full(3))
	holds(t, d, 2, full(2))
	write(t, d, 0, 3)
	pends(t, d, 1)
	mixed := make([]byte, api.SectorSize)
	for i := range mixed {
		mixed[i] = byte(255 - i)
	}
	is(t, "Write", d.Write(1, mixed), api.OK)
	holds(t, d, 1, mixed)
	holds(t, d, 0, full(3))
}

func TestSectorsOutsideAreRefused(t *testing.T) {
	d := newDisk(t, 3)
	is(t, "Live", d.Live(1), api.OK)
	for _, s := range []int{math.MinInt, -1, 3, 4, api.MaxSectors, math.MaxInt} {
		refusesRead(t, d, s, api.ErrRange)
		is(t, "Write outside", d.Write(s, full(1)), api.ErrRange)
	}
	pends(t, d, 0)
	for s := range 3 {
		holds(t, d, s, full(0))
	}
	write(t, d, 2, 1) // a write that is refused has cost no life
	is(t, "the second write of a life of one", d.Write(2, full(2)), api.ErrDead)
}

func TestWriteRefusesOtherLengths(t *testing.T) {
	d := newDisk(t, 2)
	write(t, d, 0, 9)
	is(t, "Live", d.Live(1), api.OK)
	wrong := [][]byte{nil, {}, {1}, full(1)[:31], append(full(1), 1), append(full(1), full(1)...)}
	for _, b := range wrong {
		is(t, "Write of another length", d.Write(0, b), api.ErrArg)
		is(t, "Write of another length, outside", d.Write(2, b), api.ErrArg)
	}
	holds(t, d, 0, full(9))
	pends(t, d, 1)
	write(t, d, 1, 1) // the life of one is still there
	for _, b := range wrong {
		is(t, "Write of another length, dead", d.Write(0, b), api.ErrArg)
	}
}

func TestADeadDiskRefuses(t *testing.T) {
	d := newDisk(t, 2)
	write(t, d, 0, 1)
	is(t, "Live", d.Live(0), api.OK)
	for _, s := range []int{math.MinInt, -1, 0, 1, 2, math.MaxInt} {
		refusesRead(t, d, s, api.ErrDead)
		is(t, "Write", d.Write(s, full(2)), api.ErrDead)
	}
	is(t, "Barrier", d.Barrier(), api.ErrDead)
	pends(t, d, 1)
	if d.Len() != 2 {
		t.Errorf("Len of a dead disk: %d", d.Len())
	}
	is(t, "Live", d.Live(-1), api.OK)
	holds(t, d, 0, full(1))
	holds(t, d, 1, full(0))
	is(t, "Crash", d.Crash(nil, -1, 0), api.OK)
	holds(t, d, 0, full(0)) // the barrier that was refused has kept nothing
}

// P1.3

func TestLiveRefusesBelowMinusOne(t *testing.T) {
	d := newDisk(t, 1)
	is(t, "Live", d.Live(1), api.OK)
	for _, n := range []int{-2, -3, math.MinInt} {
		is(t, "Live below -1", d.Live(n), api.ErrArg)
	}
	write(t, d, 0, 1)
	is(t, "Write beyond the life", d.Write(0, full(2)), api.ErrDead)
	is(t, "Live(-2) of a dead disk", d.Live(-2), api.ErrArg)
	refusesRead(t, d, 0, api.ErrDead)
}

func TestLifeCountsWritesAndBarriers(t *testing.T) {
	for life := range 8 {
		d := newDisk(t, 1)
		is(t, "Live", d.Live(life), api.OK)
		for i := range life {
			holds(t, d, 0, full(byte(i/2*2))) // reading costs no life
			if i%2 == 0 {
				is(t, "Barrier", d.Barrier(), api.OK)
			} else {
				write(t, d, 0, byte(i+1))
			}
		}
		refusesRead(t, d, 0, api.ErrDead)
		is(t, "Write", d.Write(0, full(1)), api.ErrDead)
		is(t, "Barrier", d.Barrier(), api.ErrDead)
	}
}

func TestLastBarrierOfALifeKeeps(t *testing.T) {
	d := newDisk(t, 1)
	is(t, "Live", d.Live(2), api.OK)
	write(t, d, 0, 1)
	is(t, "Barrier", d.Barrier(), api.OK)
	pends(t, d, 0)
	refusesRead(t, d, 0, api.ErrDead)
	is(t, "Crash", d.Crash(nil, 0, 0), api.OK)
	holds(t, d, 0, full(1))
}

func TestLiveSetsTheLifeAnew(t *testing.T) {
	d := newDisk(t, 1)
	for _, n := range []int{0, 5, 1, 0, 2} {
		is(t, "Live", d.Live(n), api.OK)
	}
	write(t, d, 0, 1)
	write(t, d, 0, 2)
	is(t, "Write", d.Write(0, full(3)), api.ErrDead)
	is(t, "Live without an end", d.Live(-1), api.OK)
	for i := range 300 {
		write(t, d, 0, byte(i))
	}
	is(t, "Live of the greatest", d.Live(math.MaxInt), api.OK)
	write(t, d, 0, 4)
	is(t, "Barrier", d.Barrier(), api.OK)
	holds(t, d, 0, full(4))
	pends(t, d, 0)
}

// P1.4

func TestFirstExample(t *testing.T) {
	for _, barrier := range []bool{false, true} {
		d := newDisk(t, 2)
		write(t, d, 0, 1)
		write(t, d, 1, 2)
		write(t, d, 0, 3)
		zero, one := tornFrom(3, 1, 5), full(0)
		if barrier {
			is(t, "Barrier", d.Barrier(), api.OK)
			zero, one = full(3), full(2)
		}
		is(t, "Crash", d.Crash([]bool{true, false, true}, 2, 5), api.OK)
		holds(t, d, 0, zero)
		holds(t, d, 1, one)
		pends(t, d, 0)
	}
}

func TestSecondExample(t *testing.T) {
	d := newDisk(t, 2)
	is(t, "Live", d.Live(1), api.OK)
	write(t, d, 0, 1)
	is(t, "Write", d.Write(1, full(2)), api.ErrDead)
	refusesRead(t, d, 0, api.ErrDead)
	is(t, "Crash", d.Crash([]bool{true}, -1, 0), api.OK)
	holds(t, d, 0, full(1))
	holds(t, d, 1, full(0))
}

func TestCrashRefusesCutsOutside(t *testing.T) {
	d := newDisk(t, 1)
	write(t, d, 0, 1)
	is(t, "Live", d.Live(0), api.OK)
	for _, cut := range []int{math.MinInt, -1, api.SectorSize + 1, math.MaxInt} {
		for _, torn := range []int{-1, 0, 1} {
			is(t, "Crash", d.Crash([]bool{false}, torn, cut), api.ErrArg)
		}
	}
	pends(t, d, 1)
	refusesRead(t, d, 0, api.ErrDead)
	is(t, "Live", d.Live(-1), api.OK)
	holds(t, d, 0, full(1))
	is(t, "Crash", d.Crash(nil, 0, api.SectorSize), api.OK)
	holds(t, d, 0, full(0))
}

// crashed is a disk whose sector 0 was 9 at the last barrier, with the writes 1, 2 and 3 pending there, behind a crash.
func crashed(t *testing.T, keep []bool, torn, cut int) *disk.Disk {
	t.Helper()
	d := newDisk(t, 2)
	write(t, d, 0, 9)
	is(t, "Barrier", d.Barrier(), api.OK)
	for b := range byte(3) {
		write(t, d, 0, b+1)
	}
	is(t, "Crash", d.Crash(keep, torn, cut), api.OK)
	return d
}

func TestCrashDoesWhatKeepSays(t *testing.T) {
	const size = api.SectorSize
	cases := []struct {
		keep      []bool
		torn, cut int
		want      []byte
	}{
		{nil, -1, 0, full(9)},
		{[]bool{}, 0, size, full(9)},
		{[]bool{false, false, false}, 1, 7, full(9)},
		{[]bool{true}, -1, 0, full(1)},
		{[]bool{false, true}, -1, 0, full(2)},
		{[]bool{true, true, true}, -1, 0, full(3)},
		{[]bool{true, true, false}, -1, 0, full(2)},
		{[]bool{true, false, true, true, true, false}, 3, 0, full(3)},
		{[]bool{false, false, false, true, true}, 3, 4, full(9)},
		{[]bool{true, true, true}, 2, 0, full(2)},
		{[]bool{true, true, true}, 2, 1, tornFrom(3, 2, 1)},
		{[]bool{true, true, true}, 2, size - 1, tornFrom(3, 2, size-1)},
		{[]bool{true, true, true}, 2, size, full(3)},
		{[]bool{false, false, true}, 2, 8, tornFrom(3, 9, 8)},
		{[]bool{true, false, true}, 2, 8, tornFrom(3, 1, 8)},
		{[]bool{true, true, true}, 0, 8, full(3)},
		{[]bool{true}, 0, 8, tornFrom(1, 9, 8)},
		{[]bool{true, false, false}, 1, 8, full(1)},
		{[]bool{true, true}, 1, 16, tornFrom(2, 1, 16)},
		{[]bool{true}, math.MinInt, 0, full(1)},
		{[]bool{true}, math.MaxInt, 0, full(1)},
	}
	for i, c := range cases {
		d := crashed(t, c.keep, c.torn, c.cut)
		pends(t, d, 0)
		if b, e := d.Read(0); e != api.OK || !bytes.Equal(b, c.want) {
			t.Errorf("case %d: %v, %d, want %v", i, b, e, c.want)
		}
		holds(t, d, 1, full(0))
	}
}

func TestCrashGivesALifeWithoutEnd(t *testing.T) {
	for _, life := range []int{-1, 0, 1, 2} {
		d := newDisk(t, 1)
		is(t, "Live", d.Live(life), api.OK)
		is(t, "Crash", d.Crash(nil, 0, 0), api.OK)
		for i := range 100 {
			write(t, d, 0, byte(i))
			is(t, "Barrier", d.Barrier(), api.OK)
		}
	}
}

func TestWhatACrashLeftIsKept(t *testing.T) {
	d := crashed(t, []bool{true, true}, 1, 4)
	want := tornFrom(2, 1, 4)
	is(t, "Crash again", d.Crash([]bool{true, true, true}, 0, 1), api.OK)
	holds(t, d, 0, want)
	write(t, d, 0, 5)
	write(t, d, 1, 6)
	pends(t, d, 2)
	is(t, "Crash that loses all", d.Crash(nil, 0, 0), api.OK)
	holds(t, d, 0, want)
	holds(t, d, 1, full(0))
}

func TestWritesAreNumberedFromTheBarrierOn(t *testing.T) {
	d := newDisk(t, 3)
	write(t, d, 0, 1)
	is(t, "Barrier", d.Barrier(), api.OK)
	is(t, "Write outside", d.Write(3, full(4)), api.ErrRange)
	write(t, d, 1, 2)
	write(t, d, 2, 3)
	is(t, "Crash", d.Crash([]bool{false, true}, 1, 3), api.OK)
	holds(t, d, 0, full(1))
	holds(t, d, 1, full(0))
	holds(t, d, 2, tornFrom(3, 0, 3))
}

// P1.5

func TestCopyIsTheSameAndItsOwn(t *testing.T) {
	d := newDisk(t, 2)
	write(t, d, 0, 1)
	is(t, "Barrier", d.Barrier(), api.OK)
	write(t, d, 0, 2)
	write(t, d, 1, 3)
	is(t, "Live", d.Live(3), api.OK)
	c := d.Copy()
	if c == nil || c == d || c.Len() != 2 {
		t.Fatalf("Copy: %v", c)
	}
	pends(t, c, 2)
	holds(t, c, 0, full(2))
	holds(t, c, 1, full(3))

	write(t, c, 0, 7)
	pends(t, c, 3)
	pends(t, d, 2)
	holds(t, d, 0, full(2))
	write(t, d, 0, 8)
	holds(t, c, 0, full(7))
	write(t, d, 1, 8)
	write(t, d, 1, 9)
	is(t, "Write beyond the life", d.Write(0, full(1)), api.ErrDead)
	is(t, "Barrier of the copy", c.Barrier(), api.OK)
	write(t, c, 1, 4)
	is(t, "Write beyond the copy's life", c.Write(0, full(1)), api.ErrDead)

	is(t, "Crash of the copy", c.Crash(nil, 0, 0), api.OK)
	holds(t, c, 0, full(7))
	holds(t, c, 1, full(3))
	refusesRead(t, d, 0, api.ErrDead)
	pends(t, d, 5)
	is(t, "Crash", d.Crash([]bool{true, false, false, true}, 0, 6), api.OK)
	holds(t, d, 0, tornFrom(2, 1, 6))
	holds(t, d, 1, full(8))
}

func TestCopiesWriteNotOverEachOthersPending(t *testing.T) {
	for ahead := range 9 { // one of these leaves spare room behind the list
		d := newDisk(t, 1)
		for i := range ahead {
			write(t, d, 0, byte(i+1))
		}
		c := d.Copy()
		write(t, c, 0, 100)
		write(t, d, 0, 200)
		keep := make([]bool, ahead+1)
		keep[ahead] = true
		is(t, "Crash of the copy", c.Crash(keep, -1, 0), api.OK)
		is(t, "Crash", d.Crash(keep, -1, 0), api.OK)
		holds(t, c, 0, full(100))
		holds(t, d, 0, full(200))
	}
}

func TestCopyOfADeadDiskIsDead(t *testing.T) {
	d := newDisk(t, 1)
	write(t, d, 0, 1)
	is(t, "Live", d.Live(0), api.OK)
	c := d.Copy()
	refusesRead(t, c, 0, api.ErrDead)
	is(t, "Live of the copy", c.Live(-1), api.OK)
	holds(t, c, 0, full(1))
	refusesRead(t, d, 0, api.ErrDead)
}

func TestNilDisk(t *testing.T) {
	var d *disk.Disk
	if d.Len() != 0 || d.Pending() != 0 {
		t.Errorf("Len %d, Pending %d", d.Len(), d.Pending())
	}
	if d.Copy() != nil {
		t.Error("Copy of nil is not nil")
	}
	for _, s := range []int{math.MinInt, -1, 0, 1, math.MaxInt} {
		refusesRead(t, d, s, api.ErrArg)
		is(t, "Write", d.Write(s, full(1)), api.ErrArg)
		is(t, "Write of nothing", d.Write(s, nil), api.ErrArg)
		is(t, "Live", d.Live(s), api.ErrArg)
		is(t, "Crash", d.Crash([]bool{true}, s, 0), api.ErrArg)
		is(t, "Crash", d.Crash(nil, 0, s), api.ErrArg)
	}
	is(t, "Barrier", d.Barrier(), api.ErrArg)
}

// R1

func TestADiskThatNewDidNotMakeDoesNotPanic(t *testing.T) {
	d := new(disk.Disk)
	for range 2 { // as it is, and behind a crash
		if d.Len() != 0 || d.Pending() != 0 {
			t.Errorf("Len %d, Pending %d", d.Len(), d.Pending())
		}
		if _, e := d.Read(0); e == api.OK {
			t.Error("Read(0) of no sectors is OK")
		}
		if e := d.Write(0, full(1)); e == api.OK {
			t.Error("Write(0) to no sectors is OK")
		}
		d.Barrier()
		d.Copy().Barrier()
		is(t, "Crash", d.Crash([]bool{true}, 0, 1), api.OK)
	}
}

// R4

func TestWriteKeepsACopyAndChangesNothing(t *testing.T) {
	room := bytes.Repeat([]byte{5}, 4*api.SectorSize)
	b := room[api.SectorSize : 2*api.SectorSize]
	d := newDisk(t, 1)
	is(t, "Write", d.Write(0, b), api.OK)
	write(t, d, 0, 6)
	is(t, "Crash", d.Crash([]bool{true}, -1, 0), api.OK)
	is(t, "Write", d.Write(0, b), api.OK)
	if !bytes.Equal(room, bytes.Repeat([]byte{5}, len(room))) {
		t.Error("Write has changed what was handed in")
	}
	for i := range room {
		room[i] = 77
	}
	holds(t, d, 0, full(5))
	is(t, "Crash", d.Crash([]bool{true}, 0, 32), api.OK)
	holds(t, d, 0, full(5))
}

func TestReadAnswersNewMemory(t *testing.T) {
	d := newDisk(t, 2)
	write(t, d, 0, 1)
	is(t, "Barrier", d.Barrier(), api.OK)
	write(t, d, 0, 2)
	a, _ := d.Read(0)
	b, _ := d.Read(0)
	a = a[:cap(a)]
	for i := range a {
		a[i] = 88
	}
	if !bytes.Equal(b, full(2)) {
		t.Error("two answers share memory")
	}
	holds(t, d, 0, full(2))
	holds(t, d, 1, full(0))
	is(t, "Crash", d.Crash([]bool{true}, -1, 0), api.OK)
	holds(t, d, 0, full(2))
	b, _ = d.Read(1)
	write(t, d, 1, 3)
	if !bytes.Equal(b, full(0)) {
		t.Error("a write has changed an answer")
	}
}

func TestCrashLeavesKeepAsItIs(t *testing.T) {
	room := []bool{true, false, true, false, true, true}
	want := slices.Clone(room)
	d := newDisk(t, 1)
	for b := range byte(5) {
		write(t, d, 0, b+1)
	}
	is(t, "Crash", d.Crash(room[:3], 2, 4), api.OK)
	if !slices.Equal(room, want) {
		t.Errorf("keep has become %v", room)
	}
	holds(t, d, 0, tornFrom(3, 1, 4)) // the spare room of keep does not count
}
