package bits

import (
	"math"
	"strings"
	"sync"
	"testing"
	"unsafe"

	"quiver/api"
)

// row tells a text's bits as the document numbers them, reckoned without shifts.
func row(s string) []bool {
	var out []bool
	for i := range len(s) {
		left := int(s[i])
		for range 8 {
			out = append(out, left%2 == 1)
			left /= 2
		}
	}
	return out
}

// text is row's way back; what is left of the last byte is 0.
func text(ons []bool) string {
	var out []byte
	worth := 1
	for i, on := range ons {
		if i%8 == 0 {
			out, worth = append(out, 0), 1
		}
		if on {
			out[len(out)-1] += byte(worth)
		}
		worth *= 2
	}
	return string(out)
}

// texts are the ones that are gone through bit by bit: no byte, one, several, all bits 0, all 1, single ones at a byte's ends.
func texts() []string {
	return []string{
		"", "\x00", "\x01", "\x80", "\x81", "\xa5", "\xff", "\x00\x00", "\xff\xff", "\x01\x80", "\x80\x01",
		"\x00\xff\x00", "\xff\x00\xff", "abc", "\x12\x34\x56\x78", "\xf0\x0f\xaa\x55\xc3",
	}
}

// far are numbers that are no bit of any of the texts, those among them that would wrap round.
func far() []int {
	return []int{
		-1, -7, -8, -9, math.MinInt, math.MinInt + 1, math.MinInt / 2, 1000, api.Most,
		math.MaxInt, math.MaxInt - 1, math.MaxInt - 7, math.MaxInt/2 + 1, math.MaxInt/8 + 1,
	}
}

func holdGet(t *testing.T, s string, at int, want bool, wantErr api.Errno) {
	t.Helper()
	if on, e := Get(s, at); on != want || e != wantErr {
		t.Errorf("P2.1: Get(%q, %d): %v, error %d; want %v, error %d", s, at, on, e, want, wantErr)
	}
}

func holdSet(t *testing.T, s string, at int, on bool, want string, wantErr api.Errno) {
	t.Helper()
	if u, e := Set(s, at, on); u != want || e != wantErr {
		t.Errorf("P2.1: Set(%q, %d, %v): %q, error %d; want %q, error %d", s, at, on, u, e, want, wantErr)
	}
}

func holdCount(t *testing.T, s string, from int, count int, want int, wantErr api.Errno) {
	t.Helper()
	if n, e := Count(s, from, count); n != want || e != wantErr {
		t.Errorf("P2.2: Count(%q, %d, %d): %d, error %d; want %d, error %d", s, from, count, n, e, want, wantErr)
	}
}

func holdCopy(t *testing.T, s string, from int, count int, want string, wantErr api.Errno) {
	t.Helper()
	if u, e := Copy(s, from, count); u != want || e != wantErr {
		t.Errorf("P2.2: Copy(%q, %d, %d): %q, error %d; want %q, error %d", s, from, count, u, e, want, wantErr)
	}
}

func TestGet(t *testing.T) {
	holdGet(t, "\x01\x80", 0, true, api.OK)
	holdGet(t, "\x01\x80", 7, false, api.OK)
	holdGet(t, "\x01\x80", 8, false, api.OK)
	holdGet(t, "\x01\x80", 15, true, api.OK)
	holdGet(t, "\x01\x80", 16, false, api.ErrBitsForm)
	holdGet(t, "\xff", 8, false, api.ErrBitsForm)
	holdGet(t, "\xff", -1, false, api.ErrBitsForm)
	holdGet(t, "", 0, false, api.ErrBitsForm)
}

func TestSet(t *testing.T) {
	holdSet(t, "\x00\x00", 0, true, "\x01\x00", api.OK)
	holdSet(t, "\x00\x00", 7, true, "\x80\x00", api.OK)
	holdSet(t, "\x00\x00", 8, true, "\x00\x01", api.OK)
	holdSet(t, "\x00\x00", 15, true, "\x00\x80", api.OK)
	holdSet(t, "\xff\xff", 0, false, "\xfe\xff", api.OK)
	holdSet(t, "\xff\xff", 7, false, "\x7f\xff", api.OK)
	holdSet(t, "\xff\xff", 15, false, "\xff\x7f", api.OK)
	holdSet(t, "\xff\xff", 9, true, "\xff\xff", api.OK)
	holdSet(t, "\x00\x00", 9, false, "\x00\x00", api.OK)
	holdSet(t, "\xff\xff", 16, false, "", api.ErrBitsForm)
	holdSet(t, "\xff\xff", -1, true, "", api.ErrBitsForm)
	holdSet(t, "", 0, true, "", api.ErrBitsForm)
	holdSet(t, "", 0, false, "", api.ErrBitsForm)
}

func TestGetAndSetOfEachBit(t *testing.T) {
	for _, s := range texts() {
		ons := row(s)
		for at, on := range ons {
			holdGet(t, s, at, on, api.OK)
			for _, want := range []bool{false, true} {
				turned := append([]bool(nil), ons...)
				turned[at] = want
				holdSet(t, s, at, want, text(turned), api.OK)
			}
		}
	}
}

func TestGetAndSetOfNoBit(t *testing.T) {
	for _, s := range texts() {
		for _, at := range append(far(), 8*len(s), 8*len(s)+1, 8*len(s)+7, 8*len(s)+8) {
			holdGet(t, s, at, false, api.ErrBitsForm)
			holdSet(t, s, at, true, "", api.ErrBitsForm)
			holdSet(t, s, at, false, "", api.ErrBitsForm)
		}
	}
}

func TestCount(t *testing.T) {
	holdCount(t, "\xf0\x0f", 0, 16, 8, api.OK)
	holdCount(t, "\xf0\x0f", 4, 8, 8, api.OK)
	holdCount(t, "\xf0\x0f", 3, 10, 8, api.OK)
	holdCount(t, "\xf0\x0f", 0, 4, 0, api.OK)
	holdCount(t, "\xf0\x0f", 0, 5, 1, api.OK)
	holdCount(t, "\xf0\x0f", 11, 5, 1, api.OK)
	holdCount(t, "\xff\xff", 16, 0, 0, api.OK)
	holdCount(t, "\xff\xff", 16, 1, 0, api.ErrBitsForm)
	holdCount(t, "\xff\xff", 17, 0, 0, api.ErrBitsForm)
	holdCount(t, "\xff\xff", 0, 17, 0, api.ErrBitsForm)
	holdCount(t, "\xff\xff", 9, 8, 0, api.ErrBitsForm)
	holdCount(t, "", 0, 0, 0, api.OK)
	holdCount(t, "", 0, 1, 0, api.ErrBitsForm)
	holdCount(t, "", 1, 0, 0, api.ErrBitsForm)
	holdCount(t, "\xff\xff", 2, -1, 0, api.ErrBitsForm)
	holdCount(t, "\xff\xff", -1, 2, 0, api.ErrBitsForm)
}

func TestCopy(t *testing.T) {
	holdCopy(t, "\xf0\x0f", 0, 16, "\xf0\x0f", api.OK)
	holdCopy(t, "\xf0\x0f", 4, 8, "\xff", api.OK)
	holdCopy(t, "\xf0\x0f", 4, 9, "\xff\x00", api.OK)
	holdCopy(t, "\xff\xff", 3, 1, "\x01", api.OK)
	holdCopy(t, "\xff\xff", 5, 7, "\x7f", api.OK)
	holdCopy(t, "\xff\xff", 7, 9, "\xff\x01", api.OK)
	holdCopy(t, "\xff\xff", 0, 3, "\x07", api.OK)
	holdCopy(t, "\xff\xff", 5, 0, "", api.OK)
	holdCopy(t, "\xff\xff", 16, 0, "", api.OK)
	holdCopy(t, "\xff\xff", 16, 1, "", api.ErrBitsForm)
	holdCopy(t, "\xff\xff", 17, 0, "", api.ErrBitsForm)
	holdCopy(t, "\xff\xff", 0, 17, "", api.ErrBitsForm)
	holdCopy(t, "\xff\xff", 9, 8, "", api.ErrBitsForm)
	holdCopy(t, "", 0, 0, "", api.OK)
	holdCopy(t, "", 0, 1, "", api.ErrBitsForm)
	holdCopy(t, "", 1, 0, "", api.ErrBitsForm)
	holdCopy(t, "\xff\xff", 2, -1, "", api.ErrBitsForm)
	holdCopy(t, "\xff\xff", -1, 2, "", api.ErrBitsForm)
}

// Every from and every count about each text: from inside and beyond it, ending inside, at and beyond its end.
func TestCountAndCopyOfEachPart(t *testing.T) {
	for _, s := range texts() {
		ons := row(s)
		for from := -2; from <= len(ons)+10; from++ {
			for count := -2; count <= len(ons)+10; count++ {
				if from < 0 || count < 0 || from+count > len(ons) {
					holdCount(t, s, from, count, 0, api.ErrBitsForm)
					holdCopy(t, s, from, count, "", api.ErrBitsForm)
					continue
				}
				ones := 0
				for _, on := range ons[from : from+count] {
					if on {
						ones++
					}
				}
				holdCount(t, s, from, count, ones, api.OK)
				holdCopy(t, s, from, count, text(ons[from:from+count]), api.OK)
			}
		}
	}
}

// Numbers whose sum, or whose sum with seven, wraps round to one that a text would have.
func TestCountAndCopyOfFarParts(t *testing.T) {
	for _, s := range texts() {
		for _, x := range far() {
			for _, y := range append(far(), 0, 1, 7, 8, 8*len(s)) {
				for _, part := range [][2]int{{x, y}, {y, x}} {
					holdCount(t, s, part[0], part[1], 0, api.ErrBitsForm)
					holdCopy(t, s, part[0], part[1], "", api.ErrBitsForm)
				}
			}
		}
	}
}

func TestGreatText(t *testing.T) {
	s := strings.Repeat("\xff\x00\x10", 100000)
	bits := 8 * len(s)
	holdGet(t, s, bits-4, true, api.OK)
	holdGet(t, s, bits-1, false, api.OK)
	holdGet(t, s, bits, false, api.ErrBitsForm)
	holdSet(t, s, bits-1, true, s[:len(s)-1]+"\x90", api.OK)
	holdCount(t, s, 0, bits, 900000, api.OK)
	holdCount(t, s, 4, bits-4, 899996, api.OK)
	holdCount(t, s, 1, bits, 0, api.ErrBitsForm)
	holdCopy(t, s, 0, bits, s, api.OK)
	holdCopy(t, s, 24, bits-24, s[3:], api.OK)
	holdCopy(t, s, 1, bits, "", api.ErrBitsForm)
}

// R4: what is handed in reads as it did, and no answer lies in its memory, not even one that reads the same.
func TestHandedInStays(t *testing.T) {
	s := strings.Clone("\xf0\x0f\xaa\x55")
	before := strings.Clone(s)
	var told []string
	for at := range 8 * len(s) {
		for _, on := range []bool{false, true} {
			u, _ := Set(s, at, on)
			told = append(told, u)
		}
		Get(s, at)
		Count(s, at, 8*len(s)-at)
		u, _ := Copy(s, 0, at)
		told = append(told, u)
	}
	whole, _ := Copy(s, 0, 8*len(s))
	told = append(told, whole)
	if s != before {
		t.Errorf("R4: %q was %q", s, before)
	}
	for _, u := range told {
		if len(u) > 0 && unsafe.StringData(u) == unsafe.StringData(s) {
			t.Errorf("R4: an answer %q lies in the memory of what was handed in", u)
		}
	}
}

// R5: the same answers from several goroutines at one time.
func TestAtOneTime(t *testing.T) {
	s := "\xf0\x0f\xaa\x55\xc3"
	ons := row(s)
	var wait sync.WaitGroup
	for g := range 8 {
		wait.Go(func() {
			for at := range ons {
				holdGet(t, s, at, ons[at], api.OK)
				holdSet(t, s, at, ons[at], s, api.OK)
				holdCopy(t, s, at, len(ons)-at, text(ons[at:]), api.OK)
				holdCount(t, s, g, 0, 0, api.OK)
			}
		})
	}
	wait.Wait()
}
