package cells

import (
	"math"
	"testing"
)

func TestShort(t *testing.T) {
	s := "\x05\x00\x00\x00" + "\x01\x02\x03\x04" + "\xff\xff\xff\x7f" + "\x00\x00\x00\x80" + "\x01\x02\x03"
	want := map[int]int{0: 5, 1: 0x04030201, 2: math.MaxInt32}
	for _, row := range []int{-2, -1, 0, 1, 2, 3, 4, 5, 1000} {
		x, ok := Short(s, row)
		if _, is := want[row]; x != want[row] || ok != is {
			t.Errorf("short %d: %d, %v; want %d, %v", row, x, ok, want[row], is)
		}
	}
}

func TestLong(t *testing.T) {
	s := "\x05\x00\x00\x00\x00\x00\x00\x00" + "\xff\xff\xff\xff\xff\xff\xff\xff" + "\x00\x00\x00\x00\x00\x00\x00\x80" + "\x01\x02\x03\x04\x05\x06\x07"
	want := map[int]int{0: 5, 1: -1, 2: math.MinInt64}
	for _, row := range []int{-2, -1, 0, 1, 2, 3, 4, 1000} {
		x, ok := Long(s, row)
		if _, is := want[row]; x != want[row] || ok != is {
			t.Errorf("long %d: %d, %v; want %d, %v", row, x, ok, want[row], is)
		}
	}
}

func TestIsThere(t *testing.T) {
	for row := range 20 {
		if !IsThere("", row) {
			t.Errorf("row %d is nothing without any bits", row)
		}
		want := row == 0 || row == 7 || row == 9
		if got := IsThere("\x81\x02", row); got != want {
			t.Errorf("row %d is there: %v; want %v", row, got, want)
		}
	}
}

func TestPutNumbers(t *testing.T) {
	for _, c := range []struct {
		xs          []int
		short, long string
	}{
		{nil, "", ""},
		{[]int{0}, "\x00\x00\x00\x00", "\x00\x00\x00\x00\x00\x00\x00\x00"},
		{[]int{0x04030201, 5}, "\x01\x02\x03\x04" + "\x05\x00\x00\x00", "\x01\x02\x03\x04\x00\x00\x00\x00" + "\x05\x00\x00\x00\x00\x00\x00\x00"},
		{[]int{math.MaxInt32, 0, 256}, "\xff\xff\xff\x7f" + "\x00\x00\x00\x00" + "\x00\x01\x00\x00", "\xff\xff\xff\x7f\x00\x00\x00\x00" + "\x00\x00\x00\x00\x00\x00\x00\x00" + "\x00\x01\x00\x00\x00\x00\x00\x00"},
	} {
		if got := PutShorts(c.xs); got != c.short {
			t.Errorf("shorts of %v: %q; want %q", c.xs, got, c.short)
		}
		if got := PutLongs(c.xs); got != c.long {
			t.Errorf("longs of %v: %q; want %q", c.xs, got, c.long)
		}
	}
	want := "\xff\xff\xff\xff\xff\xff\xff\xff" + "\x00\x00\x00\x00\x00\x00\x00\x80" + "\xff\xff\xff\xff\xff\xff\xff\x7f"
	if got := PutLongs([]int{-1, math.MinInt64, math.MaxInt64}); got != want {
		t.Errorf("longs: %q; want %q", got, want)
	}
}

// What is laid down is what a row has.
func TestPutAndBack(t *testing.T) {
	shorts, longs := []int{0, 1, 255, 65536, math.MaxInt32}, []int{math.MinInt64, -1, 0, 1 << 40, math.MaxInt64}
	for row := range 5 {
		if x, ok := Short(PutShorts(shorts), row); x != shorts[row] || !ok {
			t.Errorf("short %d: %d, %v; want %d", row, x, ok, shorts[row])
		}
		if x, ok := Long(PutLongs(longs), row); x != longs[row] || !ok {
			t.Errorf("long %d: %d, %v; want %d", row, x, ok, longs[row])
		}
	}
}

func TestPutBitsAndValid(t *testing.T) {
	for n := range 20 {
		for off := range n + 1 {
			ons := make([]bool, n)
			want := make([]byte, (n+7)/8)
			for i := range ons {
				ons[i] = i != off
				if ons[i] {
					want[i/8] |= 1 << (i % 8)
				}
			}
			if got := PutBits(ons); got != string(want) {
				t.Errorf("bits of %v: %q; want %q", ons, got, want)
			}
			valid := PutValid(ons)
			if off == n {
				want = nil
			}
			if valid != string(want) {
				t.Errorf("valid of %v: %q; want %q", ons, valid, want)
			}
			for i, on := range ons {
				if IsThere(valid, i) != on {
					t.Errorf("of %v row %d is there: %v", ons, i, !on)
				}
			}
		}
	}
	for _, c := range []struct {
		ons         []bool
		bits, valid string
	}{
		{nil, "", ""}, {[]bool{true}, "\x01", ""}, {[]bool{false}, "\x00", "\x00"}, {[]bool{false, false, true}, "\x04", "\x04"},
		{[]bool{false, false, false, false, false, false, false, false, false}, "\x00\x00", "\x00\x00"},
	} {
		if got := PutBits(c.ons); got != c.bits {
			t.Errorf("bits of %v: %q; want %q", c.ons, got, c.bits)
		}
		if got := PutValid(c.ons); got != c.valid {
			t.Errorf("valid of %v: %q; want %q", c.ons, got, c.valid)
		}
	}
}
