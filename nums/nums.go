// Package nums is layer 1: see shared/doc/01-nums.md.
package nums

import "math"

// Add is the sum; the greatest int, or the least one, if it would be beyond.
func Add(a, b int) int {
	switch {
	case b > 0 && a > math.MaxInt-b:
		return math.MaxInt
	case b < 0 && a < math.MinInt-b:
		return math.MinInt
	}
	return a + b
}

// Sub is the difference, bounded likewise.
func Sub(a, b int) int {
	switch {
	case b < 0 && a > math.MaxInt+b:
		return math.MaxInt
	case b > 0 && a < math.MinInt+b:
		return math.MinInt
	}
	return a - b
}

// Mul is the product, bounded likewise.
func Mul(a, b int) int {
	switch {
	case a == 0 || b == 0:
		return 0
	case fits(a, b):
		return a * b
	case (a < 0) == (b < 0):
		return math.MaxInt
	}
	return math.MinInt
}

// fits tells whether the product of two numbers that are not 0 is an int.
func fits(a, b int) bool {
	// Dividing the least int by -1 wraps round, so the quotient alone would not show that this product does, too.
	if a == math.MinInt && b == -1 {
		return false
	}
	return a*b/b == a
}

// Clamp is a number, brought within; lo goes ahead of hi.
func Clamp(n, lo, hi int) int {
	return max(lo, min(n, hi))
}

// Ceil is a quotient, rounded up; 0, if b is below 1, or a below 0.
func Ceil(a, b int) int {
	if a < 0 || b < 1 {
		return 0
	}
	q := a / b
	// Adding b-1 ahead of the division could go beyond the greatest int.
	if a%b > 0 {
		q++
	}
	return q
}

// Ring is a number's place on a ring of so many; 0, if there are none.
func Ring(n, size int) int {
	if size < 1 {
		return 0
	}
	r := n % size
	if r < 0 {
		r += size
	}
	return r
}
