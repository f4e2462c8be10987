// Package pad reckons with numbers from 0 to api.Most, and tells when one is not (DOC.md, chapter 1).
package pad

import (
	"quiver/api"
)

// Up tells the least multiple of api.Align that is not below x.
func Up(x int) (int, api.Errno) {
	if !in(x) {
		return 0, api.ErrPadOver
	}
	rest := x % api.Align
	if rest == 0 {
		return x, api.OK
	}
	return Add(x, api.Align-rest)
}

// Add tells a and b together.
func Add(a int, b int) (int, api.Errno) {
	// The room that is left is asked for ahead of the sum: the sum itself may wrap round where an int has 32 bits.
	if !in(a, b) || b > api.Most-a {
		return 0, api.ErrPadOver
	}
	return a + b, api.OK
}

// Mul tells a times b.
func Mul(a int, b int) (int, api.Errno) {
	// Held against a quotient, not against the product, which may wrap round as a sum may.
	if !in(a, b) || a > 0 && b > api.Most/a {
		return 0, api.ErrPadOver
	}
	return a * b, api.OK
}

// in tells whether all the numbers are from 0 to api.Most.
func in(xs ...int) bool {
	for _, x := range xs {
		if x < 0 || x > api.Most {
			return false
		}
	}
	return true
}
