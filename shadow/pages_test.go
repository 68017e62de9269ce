package shadow_test

import (
	"bytes"
	"math"
	"slices"
	"testing"

	"quire/api"
	"quire/disk"
	"quire/shadow"
)

// outside is numbers of no logical page.
var outside = []int{-1, api.MaxLogical, api.MaxLogical + 1, -api.MaxLogical, 1 << 32, math.MinInt, math.MaxInt}

// P4.2

func TestRanges(t *testing.T) {
	_, s := format(t, 32)
	for _, i := range outside {
		refusesGet(t, s, i, api.ErrRange)
		is(t, "Put", s.Put(i, []byte{1}), api.ErrRange)
		is(t, "Put of too much", s.Put(i, make([]byte, api.MaxData+1)), api.ErrRange)
		is(t, "Drop", s.Drop(i), api.ErrRange)
	}
	has(t, s, nil)
	room(t, s, 6, 0)
	for _, i := range []int{0, api.MaxLogical - 1} {
		refusesGet(t, s, i, api.ErrNone)
		is(t, "Drop", s.Drop(i), api.ErrNone)
		is(t, "Put", s.Put(i, []byte{1}), api.OK)
		gets(t, s, i, []byte{1})
	}
}

func TestPutOfEachLength(t *testing.T) {
	d, s := format(t, 40)
	for n := range api.MaxData + 1 {
		for _, c := range []byte{0, 255} {
			is(t, "Put", s.Put(3, all(n, c)), api.OK)
			has(t, s, map[int][]byte{3: all(n, c)})
			is(t, "Commit", s.Commit(), api.OK)
			has(t, s, map[int][]byte{3: all(n, c)})
			has(t, open(t, d), map[int][]byte{3: all(n, c)})
		}
	}
	want := all(api.MaxData, 255)
	for _, n := range []int{api.MaxData + 1, api.PageSize, 1 << 16} {
		is(t, "Put of too much", s.Put(3, make([]byte, n)), api.ErrLarge)
		is(t, "Put of too much", s.Put(4, make([]byte, n)), api.ErrLarge)
	}
	has(t, s, map[int][]byte{3: want})
	room(t, s, 6, 1)
}

func TestEmptyDataIsData(t *testing.T) {
	d, s := format(t, 40)
	for _, data := range [][]byte{nil, {}} {
		is(t, "Put", s.Put(3, data), api.OK)
		has(t, s, map[int][]byte{3: {}})
		is(t, "Commit", s.Commit(), api.OK)
		has(t, open(t, d), map[int][]byte{3: {}})
	}
	is(t, "Drop", s.Drop(3), api.OK)
	is(t, "Drop of what was dropped", s.Drop(3), api.ErrNone)
	has(t, s, nil)
	is(t, "Commit", s.Commit(), api.OK)
	has(t, open(t, d), nil)
	is(t, "Drop of what was dropped", s.Drop(3), api.ErrNone)
}

func TestRollback(t *testing.T) {
	d, s := format(t, 40)
	is(t, "Rollback", s.Rollback(), api.OK)
	is(t, "Put", s.Put(1, []byte{1}), api.OK)
	is(t, "Rollback", s.Rollback(), api.OK)
	has(t, s, nil)
	is(t, "Put", s.Put(1, []byte{1}), api.OK)
	is(t, "Put", s.Put(2, []byte{2}), api.OK)
	is(t, "Commit", s.Commit(), api.OK)
	for range 2 {
		is(t, "Put", s.Put(1, []byte{3}), api.OK)
		is(t, "Put", s.Put(9, []byte{9}), api.OK)
		is(t, "Drop", s.Drop(2), api.OK)
		has(t, s, map[int][]byte{1: {3}, 9: {9}})
		room(t, s, 5, 3)
		before := bytesOf(t, d)
		is(t, "Rollback", s.Rollback(), api.OK)
		if d.Pending() != 0 || !bytes.Equal(bytesOf(t, d), before) {
			t.Errorf("Rollback wrote to the disk")
		}
		has(t, s, map[int][]byte{1: {1}, 2: {2}})
		room(t, s, 5, 1)
		epoch(t, s, 2)
	}
	is(t, "Commit", s.Commit(), api.OK)
	has(t, s, map[int][]byte{1: {1}, 2: {2}})
	is(t, "Rollback", s.Rollback(), api.OK)
	has(t, s, map[int][]byte{1: {1}, 2: {2}})
	epoch(t, s, 3)
	room(t, s, 5, 1)
}

func TestRollbackOfAnOpenedStore(t *testing.T) {
	s := open(t, sound(t, 4))
	is(t, "Drop", s.Drop(5), api.OK)
	is(t, "Put", s.Put(0, []byte{1}), api.OK)
	is(t, "Rollback", s.Rollback(), api.OK)
	has(t, s, soundData())
	room(t, s, 3, 1)
}

func TestPagesRise(t *testing.T) {
	_, s := format(t, 40)
	var want []int
	for k := range api.MaxLogical {
		i := (k*125 + 3) % api.MaxLogical
		is(t, "Put", s.Put(i, nil), api.OK)
		want = append(want, i)
	}
	slices.Sort(want)
	if got := slices.Collect(s.Pages()); !slices.Equal(got, want) || len(got) != api.MaxLogical {
		t.Errorf("Pages: %v", got)
	}
}

// P4.5, and stores that Format and Open did not make

func TestNilStores(t *testing.T) {
	refusesAll(t, nil, api.ErrArg)
	refusesAll(t, new(shadow.Store), api.ErrDead)
}

// refusesAll holds that all calls answer the error, whatever else is wrong.
func refusesAll(t *testing.T, s *shadow.Store, want api.Errno) {
	t.Helper()
	for _, i := range append([]int{0, 1, api.MaxLogical - 1}, outside...) {
		refusesGet(t, s, i, want)
		is(t, "Put", s.Put(i, []byte{1}), want)
		is(t, "Put of too much", s.Put(i, make([]byte, api.MaxData+1)), want)
		is(t, "Drop", s.Drop(i), want)
	}
	is(t, "Commit", s.Commit(), want)
	is(t, "Rollback", s.Rollback(), want)
	epoch(t, s, 0)
	room(t, s, 0, 0)
	if s.Pages() == nil {
		t.Fatal("Pages: nil")
	}
	for i := range s.Pages() {
		t.Errorf("Pages tell %d", i)
	}
}

// R4

func TestNothingIsShared(t *testing.T) {
	d, s := format(t, 64)
	handed := make([]byte, 3, 8)
	copy(handed, "abc")
	scribble := func(b []byte) {
		for i := range b[:cap(b)] {
			b[:cap(b)][i] = 'x'
		}
	}
	want := map[int][]byte{1: []byte("abc"), 2: []byte("abc")}
	for i := range want {
		is(t, "Put", s.Put(i, handed), api.OK)
	}
	if !bytes.Equal(handed[:8], []byte("abc\x00\x00\x00\x00\x00")) {
		t.Errorf("Put changed what was handed in: %v", handed[:8])
	}
	scribble(handed)
	check := func(s *shadow.Store) {
		for range 2 {
			a, _ := s.Get(1)
			scribble(a)
			has(t, s, want)
			s.Rollback()
		}
	}
	a, _ := s.Get(1)
	scribble(a)
	has(t, s, want)
	is(t, "Commit", s.Commit(), api.OK)
	check(s)
	check(open(t, d))
	is(t, "Commit", s.Commit(), api.OK)
	has(t, open(t, d), want)
}

// R5: the disk is the store's own, kept and changed; two stores on two disks know nothing of one another.
func TestStoresOnCopiesOfADisk(t *testing.T) {
	d, s := format(t, 64)
	is(t, "Put", s.Put(1, []byte{1}), api.OK)
	is(t, "Commit", s.Commit(), api.OK)
	c := d.Copy()
	x := open(t, c)
	is(t, "Put", x.Put(1, []byte{2}), api.OK)
	is(t, "Commit", x.Commit(), api.OK)
	is(t, "Drop", s.Drop(1), api.OK)
	is(t, "Commit", s.Commit(), api.OK)
	has(t, s, nil)
	has(t, x, map[int][]byte{1: {2}})
	has(t, open(t, d), nil)
	has(t, open(t, c), map[int][]byte{1: {2}})
}

// R6

func TestPagesTellWhatThereWas(t *testing.T) {
	_, s := format(t, 64)
	for _, i := range []int{9, 3, 700} {
		is(t, "Put", s.Put(i, nil), api.OK)
	}
	seq := s.Pages()
	none := (*shadow.Store)(nil).Pages()
	is(t, "Put", s.Put(4, nil), api.OK)
	is(t, "Drop", s.Drop(3), api.OK)
	for range 3 {
		if got := slices.Collect(seq); !slices.Equal(got, []int{3, 9, 700}) {
			t.Errorf("Pages: %v", got)
		}
		for range none {
			t.Error("a nil store tells pages")
		}
		told := 0
		for i := range seq {
			told++
			if i == 9 {
				break
			}
		}
		if told != 2 {
			t.Errorf("%d pages were told though the loop was left", told)
		}
		is(t, "Rollback", s.Rollback(), api.OK)
	}
	// The store may change while it is ranged over.
	for i := range seq {
		is(t, "Put", s.Put(i+1, nil), api.OK)
		is(t, "Commit", s.Commit(), api.OK)
	}
	has(t, s, map[int][]byte{4: {}, 10: {}, 701: {}})
}

// R1: a disk that is replaced under a store gives errors, no panic.
func TestADiskThatIsReplaced(t *testing.T) {
	for _, sectors := range []int{0, 1, 12} {
		d, s := format(t, 64)
		for i := range 5 {
			is(t, "Put", s.Put(i, nil), api.OK)
		}
		is(t, "Commit", s.Commit(), api.OK)
		*d = disk.Disk{}
		if sectors > 0 {
			*d = *newDisk(t, sectors)
		}
		s.Room()
		s.Put(1, nil)
		is(t, "Commit", s.Commit(), api.ErrDead)
		refusesAll(t, s, api.ErrDead)
	}
}
