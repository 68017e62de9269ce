package cell_test

import (
	"math"
	"math/big"
	"math/rand"
	"strings"
	"testing"

	"quire/api"
	"quire/cell"
)

const signs = "+-*/%"

func gives(t *testing.T, op byte, a, b, want int64) {
	t.Helper()
	if n, e := cell.Arith(op, a, b); n != want || e != api.OK {
		t.Errorf("%d %q %d: %d, %d, want %d", a, op, b, n, e, want)
	}
}

func refusesArith(t *testing.T, op byte, a, b int64, want api.Errno) {
	t.Helper()
	if n, e := cell.Arith(op, a, b); n != 0 || e != want {
		t.Errorf("%d %q %d: %d, %d, want the error %d alone", a, op, b, n, e, want)
	}
}

func fits(n int64) bool { return api.MinInt <= n && n <= api.MaxInt }

// reckoned is what comes out by numbers without an end.
func reckoned(op byte, a, b int64) (int64, api.Errno) {
	if !strings.Contains(signs, string(rune(op))) || !fits(a) || !fits(b) {
		return 0, api.ErrArg
	}
	if b == 0 && (op == '/' || op == '%') {
		return 0, api.ErrZero
	}
	n, x, y := new(big.Int), big.NewInt(a), big.NewInt(b)
	switch op {
	case '+':
		n.Add(x, y)
	case '-':
		n.Sub(x, y)
	case '*':
		n.Mul(x, y)
	case '/':
		n.Quo(x, y)
	case '%':
		n.Rem(x, y)
	}
	if !n.IsInt64() || !fits(n.Int64()) {
		return 0, api.ErrOver
	}
	return n.Int64(), api.OK
}

func agrees(t *testing.T, op byte, a, b int64) {
	t.Helper()
	if want, e := reckoned(op, a, b); e == api.OK {
		gives(t, op, a, b, want)
	} else {
		refusesArith(t, op, a, b, e)
	}
}

// P5.3

func TestArith(t *testing.T) {
	gives(t, '+', 7, 2, 9)
	gives(t, '-', 7, 2, 5)
	gives(t, '-', 2, 7, -5)
	gives(t, '*', 7, -2, -14)
	gives(t, '/', 7, 2, 3)
	gives(t, '%', 7, 2, 1)
	gives(t, '+', 0, 0, 0)
	gives(t, '*', 0, api.MinInt, 0)
	gives(t, '*', api.MinInt, 0, 0)
	gives(t, '/', 0, api.MinInt, 0)
}

func TestDivisionIsCutTowardsZero(t *testing.T) {
	gives(t, '/', -7, 2, -3)
	gives(t, '/', 7, -2, -3)
	gives(t, '/', -7, -2, 3)
	gives(t, '/', 1, 2, 0)
	gives(t, '/', -1, 2, 0)
}

func TestTheRestHasTheSignOfTheFirst(t *testing.T) {
	gives(t, '%', -7, 2, -1)
	gives(t, '%', 7, -2, 1)
	gives(t, '%', -7, -2, -1)
	gives(t, '%', -6, 2, 0)
	gives(t, '%', api.MinInt, -1, 0)
	gives(t, '%', 1, api.MinInt, 1)
}

func TestArithAtTheEnds(t *testing.T) {
	gives(t, '+', api.MaxInt, api.MinInt, -1)
	gives(t, '+', api.MaxInt-1, 1, api.MaxInt)
	gives(t, '-', api.MinInt+1, 1, api.MinInt)
	gives(t, '-', -1, api.MinInt, api.MaxInt)
	gives(t, '*', 1<<59, -2, api.MinInt)
	gives(t, '*', -1<<30, 1<<30, api.MinInt)
	gives(t, '*', api.MaxInt, -1, -api.MaxInt)
	gives(t, '/', api.MinInt, 1, api.MinInt)
	gives(t, '/', api.MaxInt, -1, -api.MaxInt)
}

func TestWhatComesOutTooLarge(t *testing.T) {
	refusesArith(t, '+', api.MaxInt, 1, api.ErrOver)
	refusesArith(t, '+', api.MaxInt, api.MaxInt, api.ErrOver)
	refusesArith(t, '+', api.MinInt, api.MinInt, api.ErrOver)
	refusesArith(t, '-', api.MinInt, 1, api.ErrOver)
	refusesArith(t, '-', 0, api.MinInt, api.ErrOver)
	refusesArith(t, '*', 1<<59, 2, api.ErrOver)
	refusesArith(t, '*', api.MinInt, -1, api.ErrOver)
	refusesArith(t, '*', -1, api.MinInt, api.ErrOver)
	refusesArith(t, '/', api.MinInt, -1, api.ErrOver)
}

// The products here are such that 64 bits alone hold something small of them.
func TestProductsThatWrapRound(t *testing.T) {
	refusesArith(t, '*', 1<<32, 1<<32, api.ErrOver)
	refusesArith(t, '*', -1<<32, 1<<32, api.ErrOver)
	refusesArith(t, '*', 1<<59, 1<<5, api.ErrOver)
	refusesArith(t, '*', 1<<32+1, 1<<32, api.ErrOver)
	refusesArith(t, '*', api.MinInt, api.MinInt, api.ErrOver)
	refusesArith(t, '*', api.MinInt, 16, api.ErrOver)
	refusesArith(t, '*', api.MinInt, api.MaxInt, api.ErrOver)
	refusesArith(t, '*', 274177, 67280421310721, api.ErrOver) // 2^64 + 1
}

func TestDividedByZero(t *testing.T) {
	for _, a := range []int64{0, 1, -1, api.MaxInt, api.MinInt} {
		refusesArith(t, '/', a, 0, api.ErrZero)
		refusesArith(t, '%', a, 0, api.ErrZero)
	}
}

func TestNoOtherSign(t *testing.T) {
	for op := range 256 {
		if !strings.Contains(signs, string(rune(op))) {
			refusesArith(t, byte(op), 7, 2, api.ErrArg)
			refusesArith(t, byte(op), 7, 0, api.ErrArg)
			refusesArith(t, byte(op), math.MinInt64, 0, api.ErrArg)
		}
	}
}

// What does not fit is refused first, whether or not the rest is a fault too, and though what comes out would fit.
func TestNoOtherNumbers(t *testing.T) {
	for _, n := range []int64{api.MaxInt + 1, api.MinInt - 1, 1 << 61, -1 << 61, math.MaxInt64, math.MinInt64} {
		for _, op := range []byte(signs) {
			for _, other := range []int64{0, 1, -1, 2, n} {
				refusesArith(t, op, n, other, api.ErrArg)
				refusesArith(t, op, other, n, api.ErrArg)
			}
		}
	}
}

func TestArithIsThatOfAnotherHand(t *testing.T) {
	var numbers []int64
	for near := int64(-3); near <= 3; near++ {
		for _, n := range []int64{0, 10, 1 << 20, 1 << 29, 1 << 30, 1 << 31, 1 << 32, 1 << 58, 1 << 59, 1 << 60, 1 << 61, 1 << 62, math.MinInt64} {
			numbers = append(numbers, n+near, -n+near)
		}
	}
	for _, op := range []byte(signs + "^ \x00") {
		for _, a := range numbers {
			for _, b := range numbers {
				agrees(t, op, a, b)
			}
		}
	}
}

func TestArithByChance(t *testing.T) {
	r := rand.New(rand.NewSource(3))
	for range 50000 {
		a, b := int64(r.Uint64())>>r.Intn(64), int64(r.Uint64())>>r.Intn(64)
		agrees(t, signs[r.Intn(len(signs))], a, b)
	}
}
