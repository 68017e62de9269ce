package shadow_test

import (
	"math/rand"
	"testing"

	"quire/api"
	"quire/disk"
	"quire/shadow"
)

// 'What follows', and P4 of the document: whatever a crash keeps, Open gives the store as it was, or as it was to be.

// outcome tells which of the two a crashed disk has: the older if it is the store of that epoch.
func outcome(t *testing.T, d *disk.Disk, epochs [2]uint64, data [2]map[int][]byte) (newer bool) {
	t.Helper()
	s := open(t, d)
	k := 0
	if s.Epoch() == epochs[1] {
		k = 1
	}
	epoch(t, s, epochs[k])
	has(t, s, data[k])
	return k == 1
}

// Each set of writes that a crash may keep, each of them torn at each place that matters.
func TestEveryCrashInASmallCommit(t *testing.T) {
	data := [2]map[int][]byte{{4: {1}}, {4: {2, 3}}}
	begin := func() (*disk.Disk, *shadow.Store) {
		d, s := format(t, 4*6)
		is(t, "Put", s.Put(4, []byte{1}), api.OK)
		is(t, "Commit", s.Commit(), api.OK)
		is(t, "Put", s.Put(4, []byte{2, 3}), api.OK)
		return d, s
	}
	// Eight sectors, a barrier, a root, a barrier.
	const writes = 11
	for life := range writes + 1 {
		d, s := begin()
		is(t, "Live", d.Live(life), api.OK)
		done := s.Commit() == api.OK
		for set := range 1 << d.Pending() {
			keep := make([]bool, d.Pending())
			for i := range keep {
				keep[i] = set>>i&1 == 1
			}
			for torn := -1; torn < d.Pending(); torn++ {
				for _, cut := range []int{0, 1, 31, 32} {
					x := d.Copy()
					is(t, "Crash", x.Crash(keep, torn, cut), api.OK)
					s := open(t, x)
					newer := s.Epoch() == 3
					b, e := s.Get(4)
					if string(b) != string(data[0][4]) && !newer || string(b) != string(data[1][4]) && newer || e != api.OK || done && !newer {
						t.Fatalf("life %d, keep %v, torn %d, cut %d: epoch %d, %v, %d", life, keep, torn, cut, s.Epoch(), b, e)
					}
				}
			}
		}
	}
}

// A root that is torn anywhere, at epochs whose bytes turn over.
func TestTornRoots(t *testing.T) {
	for _, n := range []uint64{1, 2, 0x100 - 2, 0x100 - 1, 0x100, 0x10000 - 2, 0x10000 - 1, 0x10000, 1<<32 - 2, 1<<32 - 1, 1<<64 - 3, 1<<64 - 2} {
		d := newDisk(t, 4*9)
		writeSector(t, d, 0, rootOf(n, 2, 1))
		writePage(t, d, 2, 2, tableOf(0, 1, 3))
		writePage(t, d, 3, 3+256, []byte{1})
		if n > 1 {
			writeSector(t, d, 4, rootOf(n-1, 0, 0))
		}
		is(t, "Barrier", d.Barrier(), api.OK)
		data := [2]map[int][]byte{{1: {1}}, {1: {1}, 2: {2}}}
		for cut := range api.SectorSize + 1 {
			x := d.Copy()
			s := open(t, x)
			is(t, "Put", s.Put(2, []byte{2}), api.OK)
			is(t, "Live", x.Live(10), api.OK)
			is(t, "Commit", s.Commit(), api.ErrDead)
			if x.Pending() != 1 {
				t.Fatalf("Pending: %d", x.Pending())
			}
			is(t, "Crash", x.Crash([]bool{true}, 0, cut), api.OK)
			newer := outcome(t, x, [2]uint64{n, n + 1}, data)
			if newer && cut < 25 || !newer && cut == api.SectorSize {
				t.Errorf("epoch %d, cut %d: newer is %v", n, cut, newer)
			}
			// And the next commit goes well, over the torn root.
			s = open(t, x)
			is(t, "Put", s.Put(2, []byte{2}), api.OK)
			before := s.Epoch()
			is(t, "Commit", s.Commit(), api.OK)
			if before+1 != 0 {
				epoch(t, open(t, x), before+1)
			}
		}
	}
}

// Crashes by chance, one behind the other on one disk.
func TestCrashesByChance(t *testing.T) {
	r := rand.New(rand.NewSource(4))
	d, s := format(t, 4*40)
	now, epochNow := map[int][]byte{}, uint64(1)
	crashed, news := 0, 0
	for range 4000 {
		next := map[int][]byte{}
		for i, b := range now {
			next[i] = b
		}
		for range r.Intn(6) {
			i := r.Intn(12) * 66
			if _, ok := next[i]; ok && r.Intn(2) == 0 {
				is(t, "Drop", s.Drop(i), api.OK)
				delete(next, i)
			} else {
				next[i] = all(r.Intn(api.MaxData+1), byte(r.Int()))
				is(t, "Put", s.Put(i, next[i]), api.OK)
			}
		}
		is(t, "Live", d.Live(r.Intn(40)), api.OK)
		if e := s.Commit(); e == api.OK {
			now, epochNow = next, epochNow+1
			epoch(t, s, epochNow)
			// What was kept is kept, whatever a crash loses.
			is(t, "Crash", d.Crash(nil, 0, 0), api.OK)
		} else {
			is(t, "Commit", e, api.ErrDead)
			keep := make([]bool, d.Pending())
			for i := range keep {
				keep[i] = r.Intn(3) > 0
			}
			is(t, "Crash", d.Crash(keep, r.Intn(len(keep)+1)-1, r.Intn(api.SectorSize+1)), api.OK)
			crashed++
			if outcome(t, d, [2]uint64{epochNow, epochNow + 1}, [2]map[int][]byte{now, next}) {
				now, epochNow = next, epochNow+1
				news++
			}
			s = open(t, d)
		}
		has(t, s, now)
	}
	if crashed < 500 || news < 20 {
		t.Errorf("%d crashes, of which %d left the newer store: too few to tell anything", crashed, news)
	}
}
