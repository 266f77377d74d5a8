// Package calc is layer 1: numbers that do not go round.
package calc

import (
	"bottomry/api"
	"math/bits"
)

// Add is the sum of two numbers; ErrOver, if that is no int.
func Add(a, b int) (int, api.Errno) {
	n := a + b
	// What is added takes a number down just if it is below 0: a sum that went round tells itself by this.
	if (n < a) != (b < 0) {
		return 0, api.ErrOver
	}
	return n, api.OK
}

// Sub is what is left of a number when another one is taken away; ErrOver, if that is no int.
func Sub(a, b int) (int, api.Errno) {
	n := a - b
	if (n > a) != (b < 0) {
		return 0, api.ErrOver
	}
	return n, api.OK
}

// Mul is the product of two numbers; ErrOver, if that is no int.
func Mul(a, b int) (int, api.Errno) {
	high, low := bits.Mul64(far(a), far(b))
	if high != 0 {
		return 0, api.ErrOver
	}
	if (a < 0) != (b < 0) {
		return below(low)
	}
	return above(low)
}

// Scale is a number times another one, by a third; rounded up, or down.
// ErrArg, if one of the first two is below 0, or the third below 1; ErrOver, if what comes of it is no int.
func Scale(a, b, c int, up bool) (int, api.Errno) {
	if a < 0 || b < 0 || c < 1 {
		return 0, api.ErrArg
	}
	high, low := bits.Mul64(uint64(a), uint64(b))
	// The library divides only where what comes of it has room in one word.
	if high >= uint64(c) {
		return 0, api.ErrOver
	}
	whole, rest := bits.Div64(high, low, uint64(c))
	n, e := above(whole)
	if e != api.OK || !up || rest == 0 {
		return n, e
	}
	return Add(n, 1)
}

// Sum is the sum of numbers, one behind the other; ErrOver, if one of the sums on the way is no int.
func Sum(l ...int) (int, api.Errno) {
	sum := 0
	for _, n := range l {
		next, e := Add(sum, n)
		if e != api.OK {
			return 0, e
		}
		sum = next
	}
	return sum, api.OK
}

// far is how far a number is from 0: a word without a sign, as the least int is farther than an int can tell.
func far(n int) uint64 {
	if n < 0 {
		return -uint64(n)
	}
	return uint64(n)
}

// above is the number so far above 0; ErrOver, if that is no int.
func above(n uint64) (int, api.Errno) {
	if n > api.MaxInt {
		return 0, api.ErrOver
	}
	return int(n), api.OK
}

// below is the number so far below 0; ErrOver, if that is no int.
func below(n uint64) (int, api.Errno) {
	if n > api.MaxInt+1 {
		return 0, api.ErrOver
	}
	return int(-n), api.OK
}
