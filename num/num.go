// Package num is layer 1: see shared/doc/01-num.md.
package num

import (
	"math/bits"

	"ramble/api"
)

// wide is a whole number of 128 bits with a sign: its high half, its low half.
// No sum of int64s that memory can hold, and no product of two, has too little room in it.
type wide [2]uint64

func widen(n int64) wide { return wide{signBits(n), uint64(n)} }

// signBits is what stands ahead of n's bits when there are more of them: all ones below 0, else all zeros.
func signBits(n int64) uint64 { return uint64(n >> 63) }

func (w wide) plus(v wide) wide {
	low, carry := bits.Add64(w[1], v[1], 0)
	high, _ := bits.Add64(w[0], v[0], carry)
	return wide{high, low}
}

func (w wide) minus(v wide) wide {
	low, borrow := bits.Sub64(w[1], v[1], 0)
	high, _ := bits.Sub64(w[0], v[0], borrow)
	return wide{high, low}
}

func product(a, b int64) wide {
	high, low := bits.Mul64(uint64(a), uint64(b))
	// Taken without its sign a number below 0 is 2^64 too great, so the high half has the other one too often.
	high -= signBits(a) & uint64(b)
	high -= signBits(b) & uint64(a)
	return wide{high, low}
}

func (w wide) narrow() (int64, api.Errno) {
	n := int64(w[1])
	if widen(n) != w {
		return 0, api.ErrOver
	}
	return n, api.OK
}

// Add is the sum of two numbers; ErrOver, if no int64 is that.
func Add(a, b int64) (int64, api.Errno) { return widen(a).plus(widen(b)).narrow() }

// Sub is the difference of two numbers; ErrOver, if no int64 is that.
func Sub(a, b int64) (int64, api.Errno) { return widen(a).minus(widen(b)).narrow() }

// Mul is the product of two numbers; ErrOver, if no int64 is that.
func Mul(a, b int64) (int64, api.Errno) { return product(a, b).narrow() }

// Neg is the number with its sign turned; ErrOver, if no int64 is that.
func Neg(a int64) (int64, api.Errno) { return Sub(0, a) }

// Sum is the sum of all; ErrOver, if no int64 is that. Sums on the way need no room of their own.
func Sum(l ...int64) (int64, api.Errno) {
	var total wide
	for _, n := range l {
		total = total.plus(widen(n))
	}
	return total.narrow()
}
