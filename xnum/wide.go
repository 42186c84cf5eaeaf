package xnum

import (
	"math"
	"math/bits"
)

// product is all 128 bits of one, the higher 64 of them first: two right numbers pass 64 bits.
func product(a, b uint64) [2]uint64 {
	var sum [2]uint64
	shifted := [2]uint64{0, a}
	for {
		if b == 0 {
			goto told
		}
		if b&1 == 1 {
			sum = addWide(sum, shifted)
		}
		shifted = addWide(shifted, shifted)
		b >>= 1
	}
told:
	return sum
}

func addWide(a, b [2]uint64) [2]uint64 {
	low, carry := bits.Add64(a[1], b[1], 0)
	high, _ := bits.Add64(a[0], b[0], carry)
	return [2]uint64{high, low}
}

// quotient is the whole part of one, and the rest. One that passes 64 bits (or is by 0) is told as the greatest there is: it is too great for a number either way.
func quotient(a [2]uint64, by uint64) [2]uint64 {
	if a[0] >= by {
		return [2]uint64{math.MaxUint64, 0}
	}
	whole, rest := bits.Div64(a[0], a[1], by)
	return [2]uint64{whole, rest}
}
