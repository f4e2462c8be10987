package cells

import (
	"math"
	"testing"
)

func TestShort(t *testing.T) {
	s := "\x05\x00\x00\x00" + "\x01\x02\x03\x04" + "\xff\xff\xff\x7f" + "\x00\x00\x00\x80" + "\x01\x02\x03"
	want := map[int]int{0: 5, 1: 0x04030201, 2: math.MaxInt32}
	for _, row := range []int{-2, -1, 0, 1, 2, 3, 4, 5, 1000} {
		x, ok := Short(s, row)
		if _, is := want[row]; x != want[row] || ok != is {
			t.Errorf("short %d: %d, %v; want %d, %v", row, x, ok, want[row], is)
		}
	}
}

func TestLong(t *testing.T) {
	s := "\x05\x00\x00\x00\x00\x00\x00\x00" + "\xff\xff\xff\xff\xff\xff\xff\xff" + "\x00\x00\x00\x00\x00\x00\x00\x80" + "\x01\x02\x03\x04\x05\x06\x07"
	want := map[int]int{0: 5, 1: -1, 2: math.MinInt64}
	for _, row := range []int{-2, -1, 0, 1, 2, 3, 4, 1000} {
		x, ok := Long(s, row)
		if _, is := want[row]; x != want[row] || ok != is {
			t.Errorf("long %d: %d, %v; want %d, %v", row, x, ok, want[row], is)
		}
	}
}

func TestIsThere(t *testing.T) {
	for row := range 20 {
		if !IsThere("", row) {
			t.Errorf("row %d is nothing without any bits", row)
		}
		want := row == 0 || row == 7 || row == 9
		if got := IsThere("\x81\x02", row); got != want {
			t.Errorf("row %d is there: %v; want %v", row, got, want)
		}
	}
}
