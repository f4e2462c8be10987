package read

import (
	"fmt"
	"slices"
	"strings"
	"testing"

	"quiver/api"
)

// ten gives ten texts.
func ten(one func(i int) string) []string {
	var out []string
	for i := range 10 {
		out = append(out, one(i))
	}
	return out
}

// lacks gives the values of rows by bits: where one is 0 stands nothing.
func lacks(vs []string, valid string) []string {
	out := slices.Clone(vs)
	for i := range out {
		if valid[i/8]>>(i%8)&1 == 0 {
			out[i] = "n"
		}
	}
	return out
}

func TestNothing(t *testing.T) {
	xs, ss := numbers(0, 10, 11, 12, 13, 14, 15, 16, 17, 18, 19), texts(0, strings.Split("k l m n o p q r s t", " ")...)
	number := func(i int) string { return fmt.Sprintf("i%d;", 10+i) }
	word := func(i int) string { return "s1:" + string(rune('k'+i)) }
	for _, c := range []struct {
		x  api.Type
		a  api.Array
		vs []string
	}{
		{mayInts, xs, ten(number)},
		{mayBools, truths(0, 10, "\x33\x03"), strings.Split("t t f f t t f f t t", " ")},
		{mayBytes, ss, ten(word)},
		{typeOf(null(list(-1)), leaf(0, 0)), lists(0, xs, 0, 1, 2, 3, 4, 5, 6, 7, 8, 9, 10), ten(func(i int) string { return "[" + number(i) + "]" })},
		{typeOf(null(row(-1)), leaf(0, 0), leaf(2, 0)), structs(0, 10, xs, ss), ten(func(i int) string { return "{" + number(i) + word(i) + "}" })},
		{mayInts, dict(0, xs, 9, 8, 7, 6, 5, 4, 3, 2, 1, 0), ten(func(i int) string { return number(9 - i) })},
		{mayBools, dict(0, truths(0, 2, "\x01"), 1, 1, 1, 0, 0, 0, 1, 0, 1, 0), strings.Split("f f f t t t f t f t", " ")},
		{mayBytes, dict(0, ss, 9, 8, 7, 6, 5, 4, 3, 2, 1, 0), ten(func(i int) string { return word(9 - i) })},
	} {
		hold(t, c.x, c.a, c.vs...)
		for _, valid := range []string{"\x00\x00", "\xff\x03", "\xff\x01", "\xfe\x03", "\x00\x02", "\x01\x00", "\xaa\x00", "\x55\x01", "\x80\x01", "\x7f\xfc", "\x5a\xff\xff\x00", strings.Repeat("\xcc", api.MaxBuffer)} {
			want := lacks(c.vs, valid)
			for offset := range 11 {
				a := lacking(c.a, valid)
				a.Offset, a.Length = offset, 10-offset
				hold(t, c.x, a, want[offset:]...)
			}
		}
	}
}

// What a row that is nothing has in the other buffers is of no weight.
func TestNothingInTheWay(t *testing.T) {
	hold(t, mayInts, lacking(dict(0, numbers(0, 4), 7, 0, 1<<31, 1<<32-1), "\x02"), "n", "i4;", "n", "n")
	hold(t, mayBytes, lacking(dict(2, texts(0, "a"), 9, 9, 0, 1, 0), "\x14"), "s1:a", "n", "s1:a")
	hold(t, mayBools, lacking(dict(0, truths(0, 0, ""), 0, 0), "\x00"), "n", "n")
	hold(t, mayBytes, lacking(texts(0, "abc", "", "d"), "\x04"), "n", "n", "s1:d")
	some := typeOf(null(list(-1)), leaf(1, 0))
	hold(t, some, lacking(lists(0, truths(0, 3, "\x05"), 0, 2, 2, 3), "\x04"), "n", "n", "[t]")
}

func TestNothingBelow(t *testing.T) {
	// A list's values, a struct's, each by its own bits, and by its kid's Offset.
	some := typeOf(list(-1), null(leaf(0, 0)))
	kid := lacking(numbers(1, 9, 1, 2, 3), "\x0b")
	hold(t, some, lists(0, kid, 0, 2, 3), "[i1;n]", "[i3;]")
	hold(t, some, lists(1, kid, 0, 1, 2), "[n]")
	pair := typeOf(null(row(-1)), null(leaf(0, 0)), leaf(1, 0), null(leaf(2, 0)))
	a := structs(0, 3, kid, truths(0, 3, "\x06"), lacking(texts(0, "a", "b", "c"), "\x01"))
	hold(t, pair, a, "{i1;fs1:a}", "{ntn}", "{i3;tn}")
	// Of a struct that is nothing the kids tell nothing, be they there or not.
	hold(t, pair, lacking(a, "\x05"), "{i1;fs1:a}", "n", "{i3;tn}")
	hold(t, pair, lacking(a, "\x02"), "n", "{ntn}", "n")
	hold(t, pair, with(lacking(a, "\x02"), func(a *api.Array) { a.Offset, a.Length = 1, 2 }), "{ntn}", "n")
	deep := moved(pair, null(row(-1)))
	b := structs(0, 3, lacking(a, "\x05"))
	hold(t, deep, b, "{{i1;fs1:a}}", "{n}", "{{i3;tn}}")
	hold(t, deep, lacking(b, "\x06"), "n", "{n}", "{{i3;tn}}")
	hold(t, deep, lacking(structs(1, 2, lacking(a, "\x05")), "\x02"), "{n}", "n")
	// A struct's kid in another layout.
	c := structs(0, 4, run(0, 4, lacking(numbers(0, 5, 6), "\x02"), 3, 4), truths(0, 4, "\x00"), lacking(dict(0, texts(0, "z"), 0, 8, 0, 0), "\x0d"))
	hold(t, pair, lacking(c, "\x0e"), "n", "{nfn}", "{nfs1:z}", "{i6;fs1:z}")
}
