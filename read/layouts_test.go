package read

import (
	"fmt"
	"strings"
	"testing"

	"quiver/api"
)

// onces is an array of each kind that is neither list nor struct, a row or two of it ahead of its Offset, four behind.
func onces() []struct {
	may, must api.Type
	a         api.Array
	vs        []string
} {
	return []struct {
		may, must api.Type
		a         api.Array
		vs        []string
	}{
		{mayInts, ints, numbers(2, 50, 60, 7, -8, least, greatest), []string{"i7;", "i-8;", "i-9223372036854775808;", "i9223372036854775807;"}},
		{mayBools, bools, truths(1, 4, "\x0c"), []string{"f", "t", "t", "f"}},
		{mayBytes, bytes, texts(1, "xx", "", "a", "0123456789abcdef", ":;"), []string{"s0:", "s1:a", "s16:0123456789abcdef", "s2::;"}},
	}
}

func TestDict(t *testing.T) {
	for _, c := range onces() {
		vs := c.vs
		for _, x := range []api.Type{c.must, c.may} {
			hold(t, x, dict(0, c.a, 0, 1, 2, 3), vs...)
			hold(t, x, dict(0, c.a, 3, 3, 0, 2, 1, 0), vs[3], vs[3], vs[0], vs[2], vs[1], vs[0])
			hold(t, x, dict(0, c.a, 2), vs[2])
			hold(t, x, with(dict(0, c.a, 2, 1), func(a *api.Array) { a.Data += fours(9, 1<<31) + "\xff" }), vs[2], vs[1])
			// Numbers ahead of Offset may be of no row.
			hold(t, x, dict(2, c.a, 4, 1<<31, 3, 1, 1), vs[3], vs[1], vs[1])
			hold(t, x, dict(1, c.a, 1<<32-1, 0), vs[0])
		}
		hold(t, c.may, lacking(dict(0, c.a, 3, 9, 1, 1), "\x05"), vs[3], "n", vs[1], "n")
		hold(t, c.may, lacking(dict(2, c.a, 9, 9, 3, 9, 1, 1<<31), "\x14"), vs[3], "n", vs[1], "n")
		hold(t, c.may, lacking(dict(7, c.a, 0, 0, 0, 0, 0, 0, 0, 1, 2, 3), "\x7f\x02\xff"), "n", "n", vs[3])
		hold(t, c.may, lacking(dict(0, c.a, 1, 2), "\xff"), vs[1], vs[2])
	}
}

func TestRun(t *testing.T) {
	for _, c := range onces() {
		vs := c.vs
		for _, x := range []api.Type{c.must, c.may} {
			hold(t, x, run(0, 4, c.a, 1, 2, 3, 4), vs...)
			// A row just at the end of a run is of the next one.
			hold(t, x, run(0, 9, c.a, 2, 3, 6, 9), vs[0], vs[0], vs[1], vs[2], vs[2], vs[2], vs[3], vs[3], vs[3])
			for offset := range 10 {
				nine := []string{vs[0], vs[0], vs[0], vs[1], vs[2], vs[2], vs[2], vs[3], vs[3]}
				hold(t, x, run(offset, 9-offset, c.a, 3, 4, 7, 9), nine[offset:]...)
				hold(t, x, run(offset, 9-offset, c.a, 3, 4, 7, api.Most), nine[offset:]...)
			}
			// Runs behind the last row are of no weight, those ahead of Offset neither.
			hold(t, x, run(0, 2, c.a, 1, 20, 30, 1000), vs[0], vs[1])
			hold(t, x, run(0, 3, c.a, 64, 65, 66, 67), vs[0], vs[0], vs[0])
			hold(t, x, run(5, 2, c.a, 1, 2, 5, 7), vs[3], vs[3])
			hold(t, x, run(4, 2, c.a, 1, 2, 5, 7), vs[2], vs[3])
			hold(t, x, run(63, 1, c.a, 1, 2, 63, 64), vs[3])
			hold(t, x, run(62, 1, c.a, 1, 2, 63, 64), vs[2])
		}
		// What is nothing is so in its kid, by bits from that one's Offset on.
		gaps := lacking(c.a, string([]byte{0x0a<<c.a.Offset | 1}))
		hold(t, c.may, run(1, 8, gaps, 2, 3, 7, 9), "n", vs[1], "n", "n", "n", "n", vs[3], vs[3])
	}
}

// As many runs as there are rows, and one of all of them.
func TestManyRuns(t *testing.T) {
	var ends []uint32
	var xs []int
	var vs []string
	for i := range 64 {
		ends, xs, vs = append(ends, uint32(i+1)), append(xs, 3*i), append(vs, fmt.Sprintf("i%d;", 3*i))
	}
	holdAt(t, ints, 0, run(0, 64, numbers(0, xs...), ends...), vs...)
	holdAt(t, ints, 0, run(40, 24, numbers(0, xs...), ends...), vs[40:]...)
	holdAt(t, ints, 0, dict(0, numbers(0, xs...), append(ends[:63:63], 0)...), append(vs[1:64:64], vs[0])...)
	holdAt(t, ints, 0, run(0, 64, numbers(0, 5), 64), strings.Split(strings.Repeat("i5; ", 63)+"i5;", " ")...)
	for n := range 65 {
		var want []string
		for i := range 64 {
			want = append(want, map[bool]string{true: "t", false: "f"}[i < n])
		}
		if n > 0 && n < 64 {
			holdAt(t, bools, 0, run(0, 64, truths(0, 2, "\x01"), uint32(n), 64), want...)
		}
	}
}
