package crc

import (
	"hash/crc32"
	"math"
	"strings"
	"sync"
	"testing"
)

func holdSum(t *testing.T, s string, want int) {
	t.Helper()
	if got := Sum(s); got != want {
		t.Errorf("P4.1: the sum of %d bytes %.40q: %d; want %d", len(s), s, got, want)
	}
}

// library is the sum as Go's library has it.
func library(s string) int {
	return int(crc32.ChecksumIEEE([]byte(s)))
}

// divided is the sum by long division: the text's bits, each byte's lowest first, and 32 bits 0 behind them, by the polynomial, highest power first, no shifts of a register that is kept turned round.
func divided(s string) int {
	row := make([]bool, 8*len(s)+32)
	for i := range 8 * len(s) {
		row[i] = s[i/8]&(1<<(i%8)) != 0
	}
	for i := range 32 {
		row[i] = !row[i]
	}
	for i := range 8 * len(s) {
		if !row[i] {
			continue
		}
		for _, power := range []int{32, 26, 23, 22, 16, 12, 11, 10, 8, 7, 5, 4, 2, 1, 0} {
			row[i+32-power] = !row[i+32-power]
		}
	}
	sum := 0
	for i, on := range row[8*len(s):] {
		if !on {
			sum += 1 << i
		}
	}
	return sum
}

// mixed is a text of n bytes that repeats itself at no short distance.
func mixed(n int, seed int) string {
	out := make([]byte, n)
	state := uint32(seed)
	for i := range out {
		state = state*1664525 + 1013904223
		out[i] = byte(state >> 24)
	}
	return string(out)
}

// turned is s with the bits of mask turned in so many bytes from at on.
func turned(s string, at int, size int, mask byte) string {
	out := []byte(s)
	for i := range size {
		out[at+i] ^= mask
	}
	return string(out)
}

func TestSumOfNamedText(t *testing.T) {
	holdSum(t, "123456789", 3421780262)
}

func TestSumOfKnownTexts(t *testing.T) {
	holdSum(t, "", 0)
	holdSum(t, "a", 0xe8b7be43)
	holdSum(t, "abc", 0x352441c2)
	holdSum(t, "\x00", 0xd202ef8d)
	holdSum(t, "\xff", 0xff000000)
	holdSum(t, "\x00\x00\x00\x00", 0x2144df1c)
	holdSum(t, "\xff\xff\xff\xff", 0xffffffff)
	holdSum(t, "The quick brown fox jumps over the lazy dog", 0x414fa339)
	holdSum(t, strings.Repeat("\x00", 32), 0x190a55ad)
	holdSum(t, strings.Repeat("\xff", 32), 0xff6cab0b)
}

func TestSumOfOneByte(t *testing.T) {
	seen := map[int]int{}
	for b := range 256 {
		s := string([]byte{byte(b)})
		holdSum(t, s, library(s))
		holdSum(t, s, divided(s))
		if other, ok := seen[Sum(s)]; ok {
			t.Errorf("P4.1: the bytes %d and %d have one sum", other, b)
		}
		seen[Sum(s)] = b
	}
}

func TestSumOfTwoBytes(t *testing.T) {
	for first := range 256 {
		for last := range 256 {
			s := string([]byte{byte(first), byte(last)})
			holdSum(t, s, library(s))
		}
	}
}

func TestSumOfTheSameByte(t *testing.T) {
	for _, b := range []string{"\x00", "\xff", "\x01", "\x80"} {
		for n := range 300 {
			s := strings.Repeat(b, n)
			holdSum(t, s, library(s))
			holdSum(t, s, divided(s))
		}
	}
	// Texts of zero bytes that differ in length alone are told apart.
	seen := map[int]int{}
	for n := range 300 {
		sum := Sum(strings.Repeat("\x00", n))
		if other, ok := seen[sum]; ok {
			t.Errorf("P4.1: %d and %d zero bytes have one sum", other, n)
		}
		seen[sum] = n
	}
}

func TestSumOfLongTexts(t *testing.T) {
	for n := range 700 {
		s := mixed(n, n)
		holdSum(t, s, library(s))
		holdSum(t, s, divided(s))
	}
	for _, n := range []int{1023, 1024, 1025, 4095, 4096, 4097, 65535, 65536, 65537} {
		s := mixed(n, n)
		holdSum(t, s, library(s))
		holdSum(t, s, divided(s))
	}
	for _, n := range []int{1<<20 - 1, 1 << 20, 1<<20 + 1} {
		holdSum(t, mixed(n, n), library(mixed(n, n)))
	}
}

// Texts that are no UTF-8 are bytes like others: a walk by runes would lose some.
func TestSumOfAnyBytes(t *testing.T) {
	for _, s := range []string{"é", "日本", "\xc3", "\xe6\x97", "\xed\xa0\x80", "\xf4\x90\x80\x80", "a\x00b", "\xef\xbf\xbd"} {
		holdSum(t, s, library(s))
		holdSum(t, s, divided(s))
	}
}

func TestSumsAreOf32Bits(t *testing.T) {
	high, low := false, false
	for n := range 2000 {
		sum := Sum(mixed(n%50, n))
		if sum < 0 || sum > math.MaxUint32 {
			t.Errorf("P4.1: %d is no sum of 32 bits", sum)
		}
		high = high || sum > math.MaxInt32
		low = low || sum <= math.MaxInt32
	}
	if !high || !low {
		t.Errorf("P4.1: the sums are of one half only")
	}
	// The ends themselves are sums.
	holdSum(t, "", 0)
	holdSum(t, "\xff\xff\xff\xff", 4294967295)
}

func TestTurnedIsTold(t *testing.T) {
	for _, n := range []int{1, 4, 5, 9, 100, 500, 4096} {
		s := mixed(n, n)
		sum := Sum(s)
		for _, at := range []int{0, n / 2, n - 1} {
			for bit := range 8 {
				if Sum(turned(s, at, 1, 1<<bit)) == sum {
					t.Errorf("P4.1: bit %d of byte %d of %d is not told", bit, at, n)
				}
			}
			for mask := 1; mask < 256; mask++ {
				if Sum(turned(s, at, 1, byte(mask))) == sum {
					t.Errorf("P4.1: byte %d of %d, turned by %d, is not told", at, n, mask)
				}
			}
		}
		if n < 4 {
			continue
		}
		for _, at := range []int{0, (n - 4) / 2, n - 4} {
			for mask := 1; mask < 256; mask++ {
				if Sum(turned(s, at, 4, byte(mask))) == sum {
					t.Errorf("P4.1: four bytes from %d of %d on, turned by %d, are not told", at, n, mask)
				}
			}
		}
	}
}

// Two bytes that change places are told, and so is a byte more at either end, zero bytes too.
func TestMovedIsTold(t *testing.T) {
	s := "abcdefgh"
	for _, other := range []string{"bacdefgh", "abdcefgh", "abcdefhg", "hgfedcba", "abcdefg", "bcdefgh", "\x00abcdefgh", "abcdefgh\x00"} {
		if Sum(other) == Sum(s) {
			t.Errorf("P4.1: %q has the sum of %q", other, s)
		}
	}
}

// R4: the text that was handed in reads as it did.
func TestHandedInStays(t *testing.T) {
	s := mixed(600, 1)
	before := strings.Clone(s)
	Sum(s)
	Sum(s[100:200])
	if s != before {
		t.Errorf("R4: the text was changed")
	}
	whole := Sum(s)
	if again := Sum(s); again != whole || Sum(before) != whole {
		t.Errorf("R5: the same text, another sum")
	}
}

// R5: the same answers from several goroutines at one time.
func TestAtOneTime(t *testing.T) {
	var wait sync.WaitGroup
	for g := range 8 {
		wait.Go(func() {
			for n := range 300 {
				s := mixed(n, n+g)
				holdSum(t, s, library(s))
			}
		})
	}
	wait.Wait()
}
