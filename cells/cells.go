// Package cells reads what a buffer has of a single row; layers share it.
package cells

import (
	"quiver/api"
	"quiver/bits"
	"quiver/num"
)

const (
	// ShortSize is how many bytes an end, a number of a dictionary's row and a run's end take.
	ShortSize = 4
	// LongSize is how many bytes a whole number takes.
	LongSize = 8
)

// Short tells the number that a row has in s, where each takes ShortSize bytes; false, if it has none.
func Short(s string, row int) (int, bool) {
	return number(s, row, ShortSize)
}

// Long tells the number that a row has in s, where each takes LongSize bytes; false, if it has none.
func Long(s string, row int) (int, bool) {
	return number(s, row, LongSize)
}

// number tells the number that a row has in s, where each takes size bytes.
func number(s string, row int, size int) (int, bool) {
	x, e := num.Get(s, size*row, size)
	return x, e == api.OK
}

// IsThere tells whether a row is not nothing, by the bits of an array's Valid: without any, all rows are there.
func IsThere(valid string, row int) bool {
	if valid == "" {
		return true
	}
	on, e := bits.Get(valid, row)
	return on && e == api.OK
}
