package cell

import (
	"quire/api"
)

// Arith answers a op b.
func Arith(op byte, a, b int64) (int64, api.Errno) {
	if !fits(a) || !fits(b) {
		return 0, api.ErrArg
	}
	n, e := reckon(op, a, b)
	if e != api.OK {
		return 0, e
	}
	if !fits(n) {
		return 0, api.ErrOver
	}
	return n, api.OK
}

// reckon answers a op b for numbers that fit; what comes out may not fit.
func reckon(op byte, a, b int64) (int64, api.Errno) {
	switch op {
	case '+':
		return a + b, api.OK
	case '-':
		return a - b, api.OK
	case '*':
		return times(a, b)
	case '/', '%':
		return divide(op, a, b)
	}
	return 0, api.ErrArg
}

// times refuses a product that wraps round: divided by b it does not give a again, as it is off by 2^64 at the least and b is smaller.
func times(a, b int64) (int64, api.Errno) {
	n := a * b
	if b != 0 && n/b != a {
		return 0, api.ErrOver
	}
	return n, api.OK
}

// divide leaves the signs to the language, whose / and % are those of the chapter.
func divide(op byte, a, b int64) (int64, api.Errno) {
	if b == 0 {
		return 0, api.ErrZero
	}
	if op == '/' {
		return a / b, api.OK
	}
	return a % b, api.OK
}
