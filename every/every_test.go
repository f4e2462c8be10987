package every

import (
	"slices"
	"testing"
)

func TestOne(t *testing.T) {
	above := func(_ int, x int) bool { return x > 0 }
	for _, c := range []struct {
		xs   []int
		want bool
	}{
		{nil, true}, {[]int{}, true}, {[]int{1}, true}, {[]int{0}, false},
		{[]int{1, 2, 3}, true}, {[]int{0, 2, 3}, false}, {[]int{1, 0, 3}, false}, {[]int{1, 2, 0}, false},
	} {
		if got := One(c.xs, above); got != c.want {
			t.Errorf("one of %v: %v; want %v", c.xs, got, c.want)
		}
	}
}

func TestOneAsksInOrderAndStops(t *testing.T) {
	var ats []int
	var xs []string
	One([]string{"a", "b", "c", "d"}, func(at int, x string) bool {
		ats, xs = append(ats, at), append(xs, x)
		return x != "c"
	})
	if !slices.Equal(ats, []int{0, 1, 2}) || !slices.Equal(xs, []string{"a", "b", "c"}) {
		t.Errorf("asked about %v, %q", ats, xs)
	}
}
