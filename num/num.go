// Package num: exact integer arithmetic. See shared/doc/01-num.md.
package num

import (
	"math"
	"math/bits"

	"signalling/api"
)

// topUnit is the value of the first decimal digit that a root can have: Root(MaxInt) has ten digits.
const topUnit = 1000000000

// Floor: the quotient, rounded down.
func Floor(a, b int) (int, api.Errno) {
	if b == 0 {
		return 0, api.ErrArg
	}
	if a == math.MinInt && b == -1 {
		return 0, api.ErrOverflow
	}
	q := a / b
	// Go rounds towards zero, which is too high for a negative quotient that is not exact.
	if a%b != 0 && (a < 0) != (b < 0) {
		q--
	}
	return q, api.OK
}

// Ceil: the quotient, rounded up.
func Ceil(a, b int) (int, api.Errno) {
	q, e := Floor(a, b)
	if e != api.OK {
		return 0, e
	}
	if a%b != 0 {
		q++
	}
	return q, api.OK
}

// Root: the greatest r with r * r <= n, 0 for negative n.
func Root(n int) int {
	root := 0
digits:
	for unit := topUnit; unit > 0; unit /= 10 {
		// A division takes the place of next * next <= n, whose product may overflow.
		for next := root + unit; next <= n/next; next += unit {
			root = next
			if root*root == n {
				break digits
			}
		}
	}
	return root
}

// Clamp: the greater of lo and the lesser of n and hi.
func Clamp(n, lo, hi int) int {
	return max(lo, min(n, hi))
}

// Sum: the sum, replaced by the nearest int.
func Sum(l []int) int {
	// The sum is kept as hi * 2^64 + low, because partial sums may leave the range and return to it.
	hi, low := 0, uint64(0)
	for _, n := range l {
		var carry uint64
		low, carry = bits.Add64(low, uint64(n), 0)
		hi += int(carry) + signWord(n)
	}
	return nearest(hi, low)
}

// signWord is the upper word of a number that is extended to two words.
func signWord(n int) int {
	if n < 0 {
		return -1
	}
	return 0
}

// nearest is the int that is nearest to hi * 2^64 + low.
func nearest(hi int, low uint64) int {
	n := int(low)
	switch {
	case hi == signWord(n):
		return n
	case hi < 0:
		return math.MinInt
	}
	return math.MaxInt
}
