package every

import (
	"slices"
	"testing"
)

func TestOne(t *testing.T) {
	above := func(_ int, x int) bool { return x > 0 }
	for _, c := range []struct {
		xs   []int
		want bool
	}{
		{nil, true}, {[]int{}, true}, {[]int{1}, true}, {[]int{0}, false},
		{[]int{1, 2, 3}, true}, {[]int{0, 2, 3}, false}, {[]int{1, 0, 3}, false}, {[]int{1, 2, 0}, false},
	} {
		if got := One(c.xs, above); got != c.want {
			t.Errorf("one of %v: %v; want %v", c.xs, got, c.want)
		}
	}
}

func TestOneAsksInOrderAndStops(t *testing.T) {
	var ats []int
	var xs []string
	One([]string{"a", "b", "c", "d"}, func(at int, x string) bool {
		ats, xs = append(ats, at), append(xs, x)
		return x != "c"
	})
	if !slices.Equal(ats, []int{0, 1, 2}) || !slices.Equal(xs, []string{"a", "b", "c"}) {
		t.Errorf("asked about %v, %q", ats, xs)
	}
}

func TestPair(t *testing.T) {
	sizes := func(x int, y string) bool { return x == len(y) }
	for _, c := range []struct {
		xs   []int
		ys   []string
		want bool
	}{
		{nil, nil, true}, {nil, []string{}, true}, {[]int{}, nil, true}, {[]int{1}, []string{"a"}, true}, {[]int{1}, []string{""}, false},
		{[]int{0, 1, 2}, []string{"", "a", "ab"}, true}, {[]int{1, 1, 2}, []string{"", "a", "ab"}, false}, {[]int{0, 1, 2}, []string{"", "", "ab"}, false}, {[]int{0, 1, 2}, []string{"", "a", "a"}, false},
		{nil, []string{""}, false}, {[]int{0}, nil, false}, {[]int{0, 1}, []string{""}, false}, {[]int{0}, []string{"", "a"}, false},
	} {
		if got := Pair(c.xs, c.ys, sizes); got != c.want {
			t.Errorf("pair of %v, %q: %v; want %v", c.xs, c.ys, got, c.want)
		}
	}
}

func TestPairAsksInOrderAndStops(t *testing.T) {
	var xs, ys []string
	ask := func(x string, y string) bool {
		xs, ys = append(xs, x), append(ys, y)
		return x != "c"
	}
	Pair([]string{"a", "b", "c", "d"}, []string{"e", "f", "g", "h"}, ask)
	if !slices.Equal(xs, []string{"a", "b", "c"}) || !slices.Equal(ys, []string{"e", "f", "g"}) {
		t.Errorf("asked about %q, %q", xs, ys)
	}
	xs = nil
	Pair([]string{"a", "b"}, []string{"e"}, ask)
	if len(xs) != 0 {
		t.Errorf("asked about %q, though there are not as many", xs)
	}
}
