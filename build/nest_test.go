package build

import (
	"fmt"
	"slices"
	"strings"
	"testing"

	"quiver/api"
)

// kinds is values of a leaf of each kind, three rows, with what they are laid down as.
func kinds() []struct {
	node api.Node
	vs   []string
	a    api.Array
} {
	return []struct {
		node api.Node
		vs   []string
		a    api.Array
	}{
		{leaf(api.KindInt, 0), []string{"i7;", "i-8;", "i9;"}, numbers(7, -8, 9)},
		{null(leaf(api.KindInt, 0)), []string{"i7;", "n", "i9;"}, lacking(numbers(7, 0, 9), "\x05")},
		{leaf(api.KindBool, 0), []string{"t", "f", "t"}, truths(3, "\x05")},
		{null(leaf(api.KindBool, 0)), []string{"n", "f", "t"}, lacking(truths(3, "\x04"), "\x06")},
		{leaf(api.KindBytes, 0), []string{"s1:a", "s0:", "s2:]n"}, texts("a", "", "]n")},
		{null(leaf(api.KindBytes, 0)), []string{"s1:a", "s0:", "n"}, lacking(texts("a", "", ""), "\x03")},
	}
}

func TestLists(t *testing.T) {
	for _, k := range kinds() {
		x, vs := typeOf(list(-1), k.node), k.vs
		hold(t, x, lists(k.a, 0, 3), listed(vs...))
		hold(t, x, lists(k.a, 0, 0, 1, 3, 3), "[]", listed(vs[0]), listed(vs[1:]...), "[]")
		hold(t, x, lists(k.a, 0, 2, 2, 3), listed(vs[:2]...), "[]", listed(vs[2]))
		hold(t, x, lists(k.a, 0, 1, 2, 3), listed(vs[0]), listed(vs[1]), listed(vs[2]))
		// A list that is nothing has no values, nor has one that is empty.
		may := typeOf(null(list(-1)), k.node)
		hold(t, may, lists(k.a, 0, 1, 3, 3), listed(vs[0]), listed(vs[1:]...), "[]")
		hold(t, may, lacking(lists(k.a, 0, 0, 1, 1, 3, 3, 3), "\x1a"), "n", listed(vs[0]), "n", listed(vs[1:]...), "[]", "n")
		hold(t, may, lacking(lists(k.a, 0, 0, 0, 3), "\x05"), "[]", "n", listed(vs...))
	}
	hold(t, typeOf(null(list(-1)), leaf(0, 0)), lacking(lists(numbers(), 0, 0), "\x00"), "n")
	hold(t, typeOf(null(list(-1)), leaf(2, 0)), lacking(lists(texts(), 0, 0, 0), "\x00"), "n", "n")
	hold(t, typeOf(null(list(-1)), null(leaf(0, 0))), lacking(lists(lacking(numbers(0), "\x00"), 0, 0, 1, 1), "\x06"), "n", "[n]", "[]")
}

func TestListsInLists(t *testing.T) {
	two := typeOf(list(-1), list(0), leaf(0, 1))
	hold(t, two, lists(lists(numbers(2, 3, 4), 0, 0, 2, 3), 0, 3), "[[][i2;i3;][i4;]]")
	hold(t, two, lists(lists(numbers(2, 3, 4), 0, 0, 2, 3), 0, 1, 1, 3), "[[]]", "[]", "[[i2;i3;][i4;]]")
	may := typeOf(null(list(-1)), null(list(0)), null(leaf(0, 1)))
	inner := lacking(lists(lacking(numbers(0, 3, 4), "\x06"), 0, 0, 0, 2, 3), "\x0d")
	hold(t, may, lacking(lists(inner, 0, 1, 1, 1, 4), "\x0b"), "[[]]", "[]", "n", "[n[ni3;][i4;]]")
	// As deep as may be.
	deep := typeOf(list(-1), list(0), list(1), list(2), leaf(2, 3))
	want := lists(lists(lists(lists(texts("a", "b", "c"), 0, 2, 3), 0, 1, 2), 0, 2), 0, 0, 1)
	holdAt(t, deep, 0, want, "[]", "[[[[s1:as1:b]][[s1:c]]]]")
	// Lists of structs, and structs of lists.
	rows := typeOf(list(-1), row(0), leaf(0, 1), list(1), leaf(1, 3))
	holdAt(t, rows, 0, lists(structs(3, numbers(1, 2, 3), lists(truths(3, "\x05"), 0, 1, 1, 3)), 0, 2, 2, 3), "[{i1;[t]}{i2;[]}]", "[]", "[{i3;[ft]}]")
}

// All that a list's values are stands in one row, however the lists part it.
func TestParted(t *testing.T) {
	for _, size := range []int{1, 2, 3, 7, 16, 31, 64} {
		var vs []string
		ends := []int{0}
		for from := 0; from < 64; from += size {
			to := min(from+size, 64)
			vs = append(vs, listed(many(to-from, func(i int) string { return truthOf((from+i)%3 == 0) })...))
			ends = append(ends, to)
		}
		var ons []bool
		for i := range 64 {
			ons = append(ons, i%3 == 0)
		}
		holdAt(t, typeOf(list(-1), leaf(1, 0)), 0, lists(truths(64, packed(ons...)), ends...), vs...)
	}
}

func TestStructs(t *testing.T) {
	for _, k := range kinds() {
		x, vs := typeOf(row(-1), k.node), k.vs
		hold(t, x, structs(3, k.a), "{"+vs[0]+"}", "{"+vs[1]+"}", "{"+vs[2]+"}")
		for _, l := range kinds() {
			x, ws := typeOf(row(-1), k.node, leaf(1, 0), l.node), l.vs
			hold(t, x, structs(3, k.a, truths(3, "\x03"), l.a), "{"+vs[0]+"t"+ws[0]+"}", "{"+vs[1]+"t"+ws[1]+"}", "{"+vs[2]+"f"+ws[2]+"}")
			may := typeOf(null(row(-1)), k.node, l.node)
			hold(t, may, structs(3, k.a, l.a), "{"+vs[0]+ws[0]+"}", "{"+vs[1]+ws[1]+"}", "{"+vs[2]+ws[2]+"}")
		}
	}
}

// Each kid of a wide struct at its own place, whatever stands between them in the type.
func TestWideStructs(t *testing.T) {
	x := typeOf(row(-1), row(0), leaf(0, 0), list(0), leaf(1, 1), leaf(2, 3), leaf(2, 1), leaf(0, 0))
	pairs := structs(2, truths(2, "\x01"), texts("b", "c"))
	holdAt(t, x, 0, structs(2, pairs, numbers(2, 3), lists(texts("d"), 0, 0, 1), numbers(5, 6)), "{{ts1:b}i2;[]i5;}", "{{fs1:c}i3;[s1:d]i6;}")
	wide := typeOf(row(-1), leaf(0, 0), leaf(0, 0), leaf(0, 0), leaf(0, 0), leaf(0, 0), leaf(0, 0), leaf(0, 0))
	var kids []api.Array
	for i := range 7 {
		kids = append(kids, numbers(i, 10+i))
	}
	holdAt(t, wide, 0, structs(2, kids...), "{i0;i1;i2;i3;i4;i5;i6;}", "{i10;i11;i12;i13;i14;i15;i16;}")
	deep := typeOf(row(-1), row(0), row(1), row(2), leaf(2, 3), leaf(0, 0))
	want := structs(2, structs(2, structs(2, structs(2, texts("a", "b")))), numbers(1, 2))
	holdAt(t, deep, 0, want, "{{{{s1:a}}}i1;}", "{{{{s1:b}}}i2;}")
}

// zeros is what a node has where the struct above it is nothing, three rows of it, the middle one so.
func zeros() []struct {
	nodes []api.Node
	vs    [2]string
	a     api.Array
} {
	return []struct {
		nodes []api.Node
		vs    [2]string
		a     api.Array
	}{
		{typeOf(leaf(0, 0)).Nodes, [2]string{"i7;", "i9;"}, numbers(7, 0, 9)},
		{typeOf(null(leaf(0, 0))).Nodes, [2]string{"i7;", "i9;"}, lacking(numbers(7, 0, 9), "\x05")},
		{typeOf(null(leaf(0, 0))).Nodes, [2]string{"n", "i9;"}, lacking(numbers(0, 0, 9), "\x04")},
		{typeOf(leaf(1, 0)).Nodes, [2]string{"t", "t"}, truths(3, "\x05")},
		{typeOf(null(leaf(1, 0))).Nodes, [2]string{"t", "t"}, lacking(truths(3, "\x05"), "\x05")},
		{typeOf(leaf(2, 0)).Nodes, [2]string{"s2:ab", "s1:c"}, texts("ab", "", "c")},
		{typeOf(null(leaf(2, 0))).Nodes, [2]string{"s2:ab", "s1:c"}, lacking(texts("ab", "", "c"), "\x05")},
		{typeOf(list(0), leaf(0, 1)).Nodes, [2]string{"[i1;]", "[i2;i3;]"}, lists(numbers(1, 2, 3), 0, 1, 1, 3)},
		{typeOf(null(list(0)), leaf(0, 1)).Nodes, [2]string{"[i1;]", "[]"}, lacking(lists(numbers(1), 0, 1, 1, 1), "\x05")},
		{typeOf(list(0), null(leaf(0, 1))).Nodes, [2]string{"[n]", "[i2;]"}, lists(lacking(numbers(0, 2), "\x02"), 0, 1, 1, 2)},
		{typeOf(list(0), row(1), leaf(1, 2)).Nodes, [2]string{"[{t}]", "[]"}, lists(structs(1, truths(1, "\x01")), 0, 1, 1, 1)},
		{typeOf(row(0), leaf(0, 1), null(leaf(2, 1))).Nodes, [2]string{"{i5;s1:a}", "{i6;s1:b}"}, structs(3, numbers(5, 0, 6), lacking(texts("a", "", "b"), "\x05"))},
		{typeOf(null(row(0)), leaf(0, 1), null(leaf(2, 1))).Nodes, [2]string{"{i5;s1:a}", "n"}, lacking(structs(3, numbers(5, 0, 0), lacking(texts("a", "", ""), "\x01")), "\x01")},
		{typeOf(row(0), row(1), list(2), leaf(0, 3)).Nodes, [2]string{"{{[i4;]}}", "{{[]}}"}, structs(3, structs(3, lists(numbers(4), 0, 1, 1, 1)))},
		{typeOf(row(0), null(row(1)), leaf(1, 2)).Nodes, [2]string{"{{t}}", "{{t}}"}, structs(3, lacking(structs(3, truths(3, "\x05")), "\x05"))},
		{typeOf(row(0), null(row(1)), row(2), leaf(2, 3)).Nodes, [2]string{"{{{s1:a}}}", "{n}"}, structs(3, lacking(structs(3, structs(3, texts("a", "", ""))), "\x01"))},
	}
}

func TestZeros(t *testing.T) {
	for _, z := range zeros() {
		x := typeOf(append([]api.Node{null(row(-1))}, z.nodes...)...)
		want := lacking(structs(3, z.a), "\x05")
		vs := []string{"{" + z.vs[0] + "}", "n", "{" + z.vs[1] + "}"}
		holdAt(t, x, 0, want, vs...)
		if len(x.Nodes) < 5 {
			hold(t, x, want, vs...)
		}
		// Behind another kid, and ahead of one.
		last := append([]api.Node{null(row(-1)), leaf(api.KindInt, 0)}, shifted(z.nodes, 1)...)
		holdAt(t, typeOf(last...), 0, lacking(structs(3, numbers(-1, 0, -2), z.a), "\x05"), "{i-1;"+z.vs[0]+"}", "n", "{i-2;"+z.vs[1]+"}")
		first := append(append([]api.Node{null(row(-1))}, z.nodes...), leaf(api.KindBytes, 0))
		holdAt(t, typeOf(first...), 0, lacking(structs(3, z.a, texts("x", "", "y")), "\x05"), "{"+z.vs[0]+"s1:x}", "n", "{"+z.vs[1]+"s1:y}")
	}
	pair := typeOf(null(row(-1)), leaf(0, 0), null(leaf(1, 0)), list(0), leaf(2, 3))
	hold(t, pair, lacking(structs(2, numbers(0, 0), lacking(truths(2, "\x00"), "\x00"), lists(texts(), 0, 0, 0)), "\x00"), "n", "n")
}

// shifted is nodes, those of them that stand below others than the first one of all so many further on.
func shifted(nodes []api.Node, by int) []api.Node {
	out := slices.Clone(nodes)
	for i := range out {
		if out[i].Parent > 0 {
			out[i].Parent += by
		}
	}
	return out
}

// A struct of 64 rows, each second one nothing, all kinds below it.
func TestManyRows(t *testing.T) {
	x := typeOf(null(row(-1)), leaf(0, 0), leaf(1, 0), leaf(2, 0), list(0), leaf(0, 4), row(0), null(leaf(1, 6)))
	var vs, ss []string
	var xs, within []int
	var on []bool
	ends := []int{0}
	for i := range 64 {
		on = append(on, i%2 == 1)
		if i%2 == 0 {
			vs, ss, xs = append(vs, "n"), append(ss, ""), append(xs, 0)
		} else {
			vs, ss, xs = append(vs, fmt.Sprintf("{i%d;ts2:%02d[i%d;i1;]{t}}", i, i, -i)), append(ss, fmt.Sprintf("%02d", i)), append(xs, i)
			within = append(within, -i, 1)
		}
		ends = append(ends, len(within))
	}
	odd := strings.Repeat("\xaa", 8)
	want := structs(64, numbers(xs...), truths(64, odd), texts(ss...), lists(numbers(within...), ends...), structs(64, lacking(truths(64, odd), odd)))
	holdAt(t, x, 0, lacking(want, packed(on...)), vs...)
}
