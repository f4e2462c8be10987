package read

import (
	"slices"
	"strings"
	"testing"

	"quiver/api"
)

// kinds is a leaf of each kind, in each layout that it may have: three rows, told with what they are.
func kinds() []struct {
	node api.Node
	a    api.Array
	vs   []string
} {
	return []struct {
		node api.Node
		a    api.Array
		vs   []string
	}{
		{leaf(api.KindInt, 0), numbers(0, 7, -8, 9), []string{"i7;", "i-8;", "i9;"}},
		{leaf(api.KindInt, 0), numbers(2, 0, 0, 7, -8, 9), []string{"i7;", "i-8;", "i9;"}},
		{null(leaf(api.KindInt, 0)), lacking(numbers(1, 0, 7, -8, 9), "\x0a"), []string{"i7;", "n", "i9;"}},
		{leaf(api.KindInt, 0), dict(1, numbers(1, 0, 9, 7), 5, 1, 0, 1), []string{"i7;", "i9;", "i7;"}},
		{null(leaf(api.KindInt, 0)), lacking(dict(0, numbers(0, 9, 7), 1, 2, 1), "\x05"), []string{"i7;", "n", "i7;"}},
		{leaf(api.KindInt, 0), run(1, 3, numbers(1, 0, 9, 7), 3, 4), []string{"i9;", "i9;", "i7;"}},
		{leaf(api.KindBool, 0), truths(0, 3, "\x05"), []string{"t", "f", "t"}},
		{leaf(api.KindBool, 0), truths(9, 3, "\x00\x0a"), []string{"t", "f", "t"}},
		{leaf(api.KindBool, 0), dict(0, truths(3, 2, "\x08"), 0, 1, 0), []string{"t", "f", "t"}},
		{null(leaf(api.KindBool, 0)), run(2, 3, lacking(truths(0, 3, "\x07"), "\x05"), 3, 4, 8), []string{"t", "n", "t"}},
		{leaf(api.KindBytes, 0), texts(0, "a", "", "]n"), []string{"s1:a", "s0:", "s2:]n"}},
		{leaf(api.KindBytes, 0), texts(3, "x", "yy", "z", "a", "", "]n"), []string{"s1:a", "s0:", "s2:]n"}},
		{leaf(api.KindBytes, 0), dict(0, texts(1, "x", "]n", "", "a"), 2, 1, 0), []string{"s1:a", "s0:", "s2:]n"}},
		{leaf(api.KindBytes, 0), run(1, 3, texts(1, "x", "a", "", "]n"), 2, 3, 4), []string{"s1:a", "s0:", "s2:]n"}},
	}
}

// join gives the values of each, one behind the other, between two signs.
func join(from string, to string, vs ...string) string { return from + strings.Join(vs, "") + to }

func TestLists(t *testing.T) {
	for _, k := range kinds() {
		x, vs := typeOf(list(-1), k.node), k.vs
		hold(t, x, lists(0, k.a, 0, 3), join("[", "]", vs...))
		hold(t, x, lists(0, k.a, 0, 0, 1, 3, 3), "[]", join("[", "]", vs[0]), join("[", "]", vs[1:]...), "[]")
		hold(t, x, lists(0, k.a, 0, 2, 2, 3), join("[", "]", vs[:2]...), "[]", join("[", "]", vs[2]))
		hold(t, x, lists(0, k.a, 1, 2), join("[", "]", vs[1]))
		hold(t, x, lists(0, k.a, 3, 3, 3), "[]", "[]")
		hold(t, x, lists(1, k.a, 0, 1, 3), join("[", "]", vs[1:]...))
		hold(t, x, lists(2, k.a, 0, 1, 2, 2, 3), "[]", join("[", "]", vs[2]))
		hold(t, x, with(lists(2, k.a, 0, 1, 2, 2, 3), func(a *api.Array) { a.Ends += fours(0, 99) + "\xff" }), "[]", join("[", "]", vs[2]))
	}
}

// A list has as many of its kid's rows as may be.
func TestLongLists(t *testing.T) {
	data := strings.Repeat("\x2d", 8)
	all := ""
	for i := range 64 {
		all += string("ft"[data[i/8]>>(i%8)&1])
	}
	x := typeOf(list(-1), leaf(1, 0))
	holdAt(t, x, 0, lists(0, truths(0, 64, data), 0, 64), "["+all+"]")
	holdAt(t, x, 0, lists(0, truths(1, 63, data), 0, 63), "["+all[1:]+"]")
	ends, want := []uint32{0}, []string{}
	for i := range 64 {
		ends, want = append(ends, uint32(i+1)), append(want, "["+all[i:i+1]+"]")
	}
	holdAt(t, x, 0, lists(0, truths(0, 64, data), ends...), want...)
	holdAt(t, x, 0, lists(50, truths(0, 64, data), ends...), want[50:]...)
}

func TestListsInLists(t *testing.T) {
	two := typeOf(list(-1), list(0), leaf(0, 1))
	inner := lists(1, numbers(1, 9, 1, 2, 3, 4), 0, 1, 1, 3, 4)
	hold(t, two, lists(0, inner, 0, 3), "[[][i2;i3;][i4;]]")
	hold(t, two, lists(0, inner, 0, 1, 1, 3), "[[]]", "[]", "[[i2;i3;][i4;]]")
	hold(t, two, lists(1, inner, 0, 1, 2, 2), "[[i2;i3;]]", "[]")
	may := typeOf(null(list(-1)), null(list(0)), null(leaf(0, 1)))
	gaps := lacking(lists(1, lacking(numbers(1, 9, 1, 2, 3, 4), "\x1a"), 0, 1, 1, 3, 4), "\x1a")
	hold(t, may, lists(0, gaps, 0, 1, 1, 3), "[[]]", "[]", "[n[i4;]]")
	gaps.Valid = "\x06"
	hold(t, may, lacking(lists(0, gaps, 0, 1, 2, 3), "\x06"), "n", "[[ni3;]]", "[n]")
	// As deep as may be.
	deep := typeOf(list(-1), list(0), list(1), list(2), leaf(2, 3))
	a := texts(1, "x", "a", "b", "c")
	a = lists(1, a, 0, 0, 2, 3)
	a = lists(1, a, 0, 0, 1, 2)
	a = lists(1, a, 0, 0, 2)
	holdAt(t, deep, 0, lists(0, a, 0, 0, 1), "[]", "[[[[s1:as1:b]][[s1:c]]]]")
}

func TestStructs(t *testing.T) {
	for _, k := range kinds() {
		x, vs := typeOf(row(-1), k.node), k.vs
		hold(t, x, structs(0, 3, k.a), "{"+vs[0]+"}", "{"+vs[1]+"}", "{"+vs[2]+"}")
		hold(t, x, structs(1, 2, k.a), "{"+vs[1]+"}", "{"+vs[2]+"}")
		// Kids longer than the struct.
		hold(t, x, structs(0, 2, k.a), "{"+vs[0]+"}", "{"+vs[1]+"}")
		hold(t, x, structs(1, 1, k.a), "{"+vs[1]+"}")
		for _, l := range kinds() {
			x, ws := typeOf(row(-1), k.node, leaf(1, 0), l.node), l.vs
			mid := truths(0, 3, "\x03")
			hold(t, x, structs(0, 3, k.a, mid, l.a), "{"+vs[0]+"t"+ws[0]+"}", "{"+vs[1]+"t"+ws[1]+"}", "{"+vs[2]+"f"+ws[2]+"}")
			hold(t, x, structs(2, 1, k.a, mid, l.a), "{"+vs[2]+"f"+ws[2]+"}")
		}
	}
}

// Each kid of a wide struct at its own place, whatever stands between them in the type.
func TestWideStructs(t *testing.T) {
	x := typeOf(row(-1), row(0), leaf(0, 0), list(0), leaf(1, 1), leaf(2, 3), leaf(2, 1), leaf(0, 0))
	pairs := structs(0, 3, truths(1, 3, "\x06"), texts(0, "a", "b", "c"))
	many := lists(0, texts(0, "d", "e"), 0, 1, 1, 2)
	holdAt(t, x, 0, structs(1, 2, pairs, numbers(0, 1, 2, 3), many, numbers(1, 0, 4, 5, 6)), "{{ts1:b}i2;[]i5;}", "{{fs1:c}i3;[s1:e]i6;}")
	wide := typeOf(row(-1), leaf(0, 0), leaf(0, 0), leaf(0, 0), leaf(0, 0), leaf(0, 0), leaf(0, 0), leaf(0, 0))
	var kids []api.Array
	for i := range 7 {
		kids = append(kids, numbers(0, i, 10+i, 20+i))
	}
	holdAt(t, wide, 0, structs(0, 3, kids...), "{i0;i1;i2;i3;i4;i5;i6;}", "{i10;i11;i12;i13;i14;i15;i16;}", "{i20;i21;i22;i23;i24;i25;i26;}")
	slices.Reverse(kids)
	holdAt(t, wide, 0, structs(1, 1, kids...), "{i16;i15;i14;i13;i12;i11;i10;}")
}

// Structs' Offsets add up, one below the other, and lists' with them.
func TestOffsetsBelowOffsets(t *testing.T) {
	x := typeOf(row(-1), row(0), leaf(0, 1), list(0), leaf(0, 3))
	inner := structs(2, 4, numbers(1, 0, 1, 2, 3, 4, 5, 6))
	many := lists(1, numbers(1, 0, 1, 2, 3, 4, 5, 6), 0, 1, 2, 2, 4, 6)
	holdAt(t, x, 0, structs(0, 4, inner, many), "{{i3;}[i2;]}", "{{i4;}[]}", "{{i5;}[i3;i4;]}", "{{i6;}[i5;i6;]}")
	holdAt(t, x, 0, structs(2, 2, inner, many), "{{i5;}[i3;i4;]}", "{{i6;}[i5;i6;]}")
	whole := typeOf(append([]api.Node{list(-1)}, moved(x, list(-1)).Nodes[1:]...)...)
	holdAt(t, whole, 0, lists(1, structs(1, 3, inner, many), 0, 1, 1, 3), "[]", "[{{i5;}[i3;i4;]}{{i6;}[i5;i6;]}]")
}
