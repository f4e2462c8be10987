// Package cells reads what a buffer has of a single row, and lays down what it has of all of them; layers share it.
package cells

import (
	"slices"
	"strings"

	"quiver/api"
	"quiver/bits"
	"quiver/num"
)

const (
	// ShortSize is how many bytes an end, a number of a dictionary's row and a run's end take.
	ShortSize = 4
	// LongSize is how many bytes a whole number takes.
	LongSize = 8
)

// Short tells the number that a row has in s, where each takes ShortSize bytes; false, if it has none.
func Short(s string, row int) (int, bool) {
	return number(s, row, ShortSize)
}

// Long tells the number that a row has in s, where each takes LongSize bytes; false, if it has none.
func Long(s string, row int) (int, bool) {
	return number(s, row, LongSize)
}

// number tells the number that a row has in s, where each takes size bytes.
func number(s string, row int, size int) (int, bool) {
	x, e := num.Get(s, size*row, size)
	return x, e == api.OK
}

// PutShorts tells numbers, each from 0 to api.Most, in ShortSize bytes each.
func PutShorts(xs []int) string {
	return putNumbers(xs, ShortSize)
}

// PutLongs tells numbers in LongSize bytes each.
func PutLongs(xs []int) string {
	return putNumbers(xs, LongSize)
}

// putNumbers tells numbers in so many bytes each.
func putNumbers(xs []int, size int) string {
	var out strings.Builder
	for _, x := range xs {
		s, _ := num.Put(x, size)
		out.WriteString(s)
	}
	return out.String()
}

// PutBits tells truths, a bit each, in just as many bytes as they need.
func PutBits(ons []bool) string {
	s := strings.Repeat("\x00", (len(ons)+7)/8)
	for i, on := range ons {
		s, _ = bits.Set(s, i, on)
	}
	return s
}

// IsThere tells whether a row is not nothing, by the bits of an array's Valid: without any, all rows are there.
func IsThere(valid string, row int) bool {
	if valid == "" {
		return true
	}
	on, e := bits.Get(valid, row)
	return on && e == api.OK
}

// PutValid tells an array's Valid by which rows are not nothing: no bits, if all rows are there.
func PutValid(there []bool) string {
	if !slices.Contains(there, false) {
		return ""
	}
	return PutBits(there)
}
