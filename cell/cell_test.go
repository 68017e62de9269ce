package cell_test

import (
	"math"
	"math/rand"
	"testing"

	"quire/api"
	"quire/cell"
)

const addresses = uint64(1) << 62

func fixes(t *testing.T, n int64, want uint64) {
	t.Helper()
	if c, e := cell.Fix(n); c != want || e != api.OK {
		t.Errorf("Fix(%d): %#x, %d, want %#x", n, c, e, want)
	}
}

func refusesFix(t *testing.T, n int64) {
	t.Helper()
	if c, e := cell.Fix(n); c != 0 || e != api.ErrOver {
		t.Errorf("Fix(%d): %#x, %d, want the error %d alone", n, c, e, api.ErrOver)
	}
}

func points(t *testing.T, addr, want uint64) {
	t.Helper()
	if c, e := cell.Ptr(addr); c != want || e != api.OK {
		t.Errorf("Ptr(%#x): %#x, %d, want %#x", addr, c, e, want)
	}
}

func refusesPtr(t *testing.T, addr uint64) {
	t.Helper()
	if c, e := cell.Ptr(addr); c != 0 || e != api.ErrOver {
		t.Errorf("Ptr(%#x): %#x, %d, want the error %d alone", addr, c, e, api.ErrOver)
	}
}

// seen is what the calls that look at a cell answer.
type seen struct {
	kind int
	num  int64
	addr uint64
	flag bool
}

func none() seen            { return seen{} }
func number(n int64) seen   { return seen{kind: 1, num: n} }
func address(a uint64) seen { return seen{kind: 2, addr: a} }
func flag(b bool) seen      { return seen{kind: 3, flag: b} }

// asked is the error where the cell is asked as one of that kind.
func (s seen) asked(kind int) api.Errno {
	if s.kind == kind {
		return api.OK
	}
	return api.ErrKind
}

// is holds all that can be asked of a cell: the one kind, what it is there, and ErrKind alone for the others.
func is(t *testing.T, c uint64, want seen) {
	t.Helper()
	if k := cell.Kind(c); k != want.kind {
		t.Errorf("Kind(%#x): %d, want %d", c, k, want.kind)
	}
	if n, e := cell.Num(c); n != want.num || e != want.asked(1) {
		t.Errorf("Num(%#x): %d, %d, want %+v", c, n, e, want)
	}
	if a, e := cell.Addr(c); a != want.addr || e != want.asked(2) {
		t.Errorf("Addr(%#x): %#x, %d, want %+v", c, a, e, want)
	}
	if b, e := cell.Bool(c); b != want.flag || e != want.asked(3) {
		t.Errorf("Bool(%#x): %t, %d, want %+v", c, b, e, want)
	}
}

// read is what a cell is, by another hand: by division in place of shifts and masks.
func read(c uint64) seen {
	switch {
	case c == 2 || c == 6:
		return flag(c == 6)
	case c%4 == 1:
		return address(c / 4)
	case c%4 == 0 && c/4 < 1<<60:
		return number(int64(c / 4))
	case c%4 == 0 && c/4 >= addresses-1<<60:
		return number(-int64(addresses - c/4))
	}
	return none()
}

// P5.1

func TestFix(t *testing.T) {
	fixes(t, 0, 0)
	fixes(t, 1, 4)
	fixes(t, 2, 8)
	fixes(t, -1, 0xFFFFFFFFFFFFFFFC)
	fixes(t, -2, 0xFFFFFFFFFFFFFFF8)
	fixes(t, 1<<59, 1<<61)
}

func TestFixAtTheEnds(t *testing.T) {
	fixes(t, api.MaxInt, 0x3FFFFFFFFFFFFFFC)
	fixes(t, api.MinInt, 0xC000000000000000)
	for _, n := range []int64{api.MaxInt + 1, api.MinInt - 1, 1<<61 - 1, 1 << 61, -1 << 61, -1<<61 - 1, 1 << 62, -1 << 62, math.MaxInt64, math.MinInt64} {
		refusesFix(t, n)
	}
}

func TestPtr(t *testing.T) {
	points(t, 0, 1)
	points(t, 1, 5)
	points(t, 2, 9)
	points(t, 1<<60, 1<<62+1)
	points(t, 1<<61, 1<<63+1)
}

func TestPtrAtTheEnds(t *testing.T) {
	points(t, addresses-1, math.MaxUint64-2)
	for _, a := range []uint64{addresses, addresses + 1, 1 << 63, math.MaxUint64} {
		refusesPtr(t, a)
	}
}

func TestFlag(t *testing.T) {
	if c := cell.Flag(false); c != 2 {
		t.Errorf("Flag(false): %d", c)
	}
	if c := cell.Flag(true); c != 6 {
		t.Errorf("Flag(true): %d", c)
	}
}

// P5.2

func TestNumbers(t *testing.T) {
	is(t, 0, number(0))
	is(t, 4, number(1))
	is(t, 8, number(2))
	is(t, 0xFFFFFFFFFFFFFFFC, number(-1))
	is(t, 0x3FFFFFFFFFFFFFFC, number(api.MaxInt))
	is(t, 0xC000000000000000, number(api.MinInt))
}

func TestNumbersBeyondTheEndsAreNone(t *testing.T) {
	for _, c := range []uint64{0x4000000000000000, 0x4000000000000004, 0x7FFFFFFFFFFFFFFC, 0x8000000000000000, 0x8000000000000004, 0xBFFFFFFFFFFFFFFC} {
		is(t, c, none())
	}
}

func TestAddresses(t *testing.T) {
	is(t, 1, address(0))
	is(t, 5, address(1))
	is(t, 1<<62+1, address(1<<60))
	is(t, 1<<63+1, address(1<<61))
	is(t, math.MaxUint64-2, address(addresses-1))
}

func TestFlags(t *testing.T) {
	is(t, 2, flag(false))
	is(t, 6, flag(true))
}

func TestOtherFlagsAreNone(t *testing.T) {
	for _, c := range []uint64{10, 14, 18, 1<<32 + 2, 1<<32 + 6, 1<<63 + 2, 1<<63 + 6, math.MaxUint64 - 1} {
		is(t, c, none())
	}
}

func TestTheLastTagIsNone(t *testing.T) {
	for _, c := range []uint64{3, 7, 11, 1<<62 + 3, 1<<63 + 3, math.MaxUint64} {
		is(t, c, none())
	}
}

func TestSmallAndLargeCellsAreThoseOfAnotherHand(t *testing.T) {
	for c := range uint64(5000) {
		is(t, c, read(c))
		is(t, ^c, read(^c))
	}
}

func TestCellsAtEachBit(t *testing.T) {
	for bit := range 64 {
		middle := uint64(1) << bit
		for near := range uint64(20) {
			is(t, middle+near, read(middle+near))
			is(t, middle-near, read(middle-near))
			is(t, -middle+near, read(-middle+near))
			is(t, -middle-near, read(-middle-near))
		}
	}
}

func TestThereAndBack(t *testing.T) {
	r := rand.New(rand.NewSource(1))
	for range 20000 {
		n := int64(r.Uint64()) >> r.Intn(64)
		c, e := cell.Fix(n)
		if e == api.OK {
			is(t, c, number(n))
		} else if api.MinInt <= n && n <= api.MaxInt {
			t.Errorf("Fix(%d): %d", n, e)
		}
		a := r.Uint64() >> r.Intn(64)
		c, e = cell.Ptr(a)
		if e == api.OK {
			is(t, c, address(a))
		} else if a < addresses {
			t.Errorf("Ptr(%d): %d", a, e)
		}
	}
	is(t, cell.Flag(false), flag(false))
	is(t, cell.Flag(true), flag(true))
}

func TestACellHasOneForm(t *testing.T) {
	r := rand.New(rand.NewSource(2))
	for range 20000 {
		c := r.Uint64() >> r.Intn(64)
		is(t, c, read(c))
		switch want := read(c); want.kind {
		case 1:
			fixes(t, want.num, c)
		case 2:
			points(t, want.addr, c)
		}
	}
}
