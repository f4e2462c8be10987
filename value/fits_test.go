package value

import (
	"slices"
	"strconv"
	"strings"
	"testing"

	"quiver/api"
)

func typeOf(nodes ...api.Node) api.Type { return api.Type{Nodes: nodes} }

func leaf(kind int, parent int) api.Node { return api.Node{Kind: kind, Parent: parent} }

func list(parent int) api.Node { return api.Node{Kind: api.KindList, Parent: parent} }

func row(parent int) api.Node { return api.Node{Kind: api.KindStruct, Parent: parent} }

func null(n api.Node) api.Node {
	n.Null = true
	return n
}

func holdFits(t *testing.T, x api.Type, at int, v string, want bool) {
	t.Helper()
	if got := Fits(x, at, v); got != want {
		t.Errorf("P7.3: %q at node %d of %v: %v; want %v", short(v), at, x, got, want)
	}
}

// places are node 0 of x, and that node behind others, within a list and within a struct.
func places(x api.Type) map[int]api.Type {
	moved := func(by int, ahead ...api.Node) api.Type {
		for i, n := range x.Nodes {
			n.Parent += by
			if i == 0 {
				n.Parent = 0
			}
			ahead = append(ahead, n)
		}
		return typeOf(ahead...)
	}
	return map[int]api.Type{0: x, 1: moved(1, list(-1)), 3: moved(3, row(-1), leaf(0, 0), null(leaf(1, 0)))}
}

func TestEachKind(t *testing.T) {
	types := map[int]api.Type{
		api.KindInt:    typeOf(leaf(0, -1)),
		api.KindBool:   typeOf(leaf(1, -1)),
		api.KindBytes:  typeOf(leaf(2, -1)),
		api.KindList:   typeOf(list(-1), leaf(0, 0)),
		api.KindStruct: typeOf(row(-1), leaf(0, 0)),
	}
	values := map[int][]string{
		api.KindInt:    {"i0;", "i5;", "i-9223372036854775808;", "i9223372036854775807;"},
		api.KindBool:   {"t", "f"},
		api.KindBytes:  {"s0:", "s1:a", "s3:\x00\xff]", "s16:1234567890123456"},
		api.KindList:   {"[]", "[i5;]", "[i5;i6;i-7;]"},
		api.KindStruct: {"{i5;}", "{i-1;}"},
	}
	for kind, x := range types {
		for _, on := range []bool{false, true} {
			x.Nodes[0].Null = on
			for at, y := range places(x) {
				holdFits(t, y, at, "n", on)
				for other, vs := range values {
					for _, v := range vs {
						holdFits(t, y, at, v, other == kind)
					}
				}
			}
		}
	}
}

func TestHowManyBytes(t *testing.T) {
	for _, n := range []int{0, 1, 9, 10, 15, 16, 17, 18, 100, 1000, 60000} {
		v := Bytes(strings.Repeat("\xfe", n))
		want := n <= api.MaxBytes
		for at, x := range places(typeOf(leaf(2, -1))) {
			holdFits(t, x, at, v, want)
		}
		holdFits(t, typeOf(null(leaf(2, -1))), 0, v, want)
		holdFits(t, typeOf(list(-1), leaf(2, 0)), 0, "[s1:a"+v+"s0:]", want)
		holdFits(t, typeOf(row(-1), leaf(1, 0), leaf(2, 0)), 0, "{t"+v+"}", want)
	}
}

func TestHowManyInAList(t *testing.T) {
	for _, n := range []int{0, 1, 2, 63, 64, 65, 66, 128, 1000, 20000} {
		want := n <= api.MaxRows
		holdFits(t, typeOf(list(-1), leaf(1, 0)), 0, "["+strings.Repeat("t", n)+"]", want)
		holdFits(t, typeOf(list(-1), leaf(0, 0)), 0, "["+strings.Repeat("i7;", n)+"]", want)
		holdFits(t, typeOf(null(list(-1)), null(leaf(0, 0))), 0, "["+strings.Repeat("n", n)+"]", want)
		v := "[" + strings.Repeat("f", n) + "]"
		holdFits(t, typeOf(list(-1), list(0), leaf(1, 1)), 0, "[[t]"+v+"[]]", want)
		holdFits(t, typeOf(row(-1), list(0), leaf(1, 1)), 0, "{"+v+"}", want)
		holdFits(t, typeOf(list(-1), row(0), leaf(1, 1)), 0, "["+strings.Repeat("{t}", n)+"]", want)
	}
	// Lists of as many as may be, one within the other: as many values as the bytes allow.
	x := typeOf(list(-1), list(0), list(1), leaf(1, 2))
	holdFits(t, x, 0, "["+strings.Repeat("["+strings.Repeat("[tf]", 64)+"]", 64)+"]", true)
	holdFits(t, x, 0, "["+strings.Repeat("["+strings.Repeat("[tf]", 64)+"]", 63)+"["+strings.Repeat("[tf]", 65)+"]]", false)
}

// A text of more than MaxValue bytes is no value that could be taken apart, and fits no node.
func TestHowLongAValueFits(t *testing.T) {
	x := typeOf(list(-1), list(0), leaf(2, 1))
	full := "s16:1234567890123456"
	v := strings.Repeat("["+strings.Repeat(full, 64)+"]", 51)
	left := api.MaxValue - 2 - len(v)
	for more := range 3 {
		last := "[" + strings.Repeat(full, 7)
		last += Bytes(strings.Repeat("a", left-len(last)-len("s7:]")+more)) + "]"
		whole := "[" + v + last + "]"
		if len(whole) != api.MaxValue+more {
			t.Fatalf("%d bytes", len(whole))
		}
		holdFits(t, x, 0, whole, more == 0)
	}
}

func TestInAStruct(t *testing.T) {
	x := typeOf(row(-1), leaf(0, 0), leaf(1, 0), null(leaf(2, 0)))
	for v, want := range map[string]bool{
		"{i5;ts1:a}": true, "{i5;tn}": true, "{i0;fs0:}": true,
		// One too few, one too many, at each place.
		"{}": false, "{i5;}": false, "{i5;t}": false, "{ts1:a}": false, "{i5;s1:a}": false,
		"{i5;ts1:an}": false, "{i5;tnn}": false, "{i5;i5;tn}": false, "{i5;ttn}": false, "{ni5;tn}": false, "{i5;tni5;tn}": false,
		// In another order.
		"{ti5;n}": false, "{i5;nt}": false, "{ni5;t}": false, "{s1:ati5;}": false, "{ts1:ai5;}": false,
		// One that is nothing and may not be.
		"{ntn}": false, "{i5;nn}": false, "{nnn}": false,
		"[i5;tn]": false, "n": false, "i5;": false, "{i5;t{n}}": false, "{{i5;tn}}": false,
	} {
		holdFits(t, x, 0, v, want)
	}
	holdFits(t, typeOf(row(-1), leaf(0, 0)), 0, "{}", false)
	holdFits(t, typeOf(row(-1), null(leaf(0, 0))), 0, "{}", false)
	holdFits(t, typeOf(null(row(-1)), null(leaf(0, 0))), 0, "{n}", true)
	many := typeOf(row(-1), leaf(0, 0), leaf(0, 0), leaf(0, 0), leaf(0, 0), leaf(0, 0), leaf(0, 0), leaf(0, 0))
	for n := range 20 {
		holdFits(t, many, 0, "{"+strings.Repeat("i1;", n)+"}", n == 7)
	}
	// Kids that stand apart: each value is of the kid of its number.
	apart := typeOf(row(-1), list(0), leaf(0, 0), row(0), leaf(2, 1), leaf(1, 3), leaf(1, 0), null(leaf(0, 3)))
	holdFits(t, apart, 0, "{[s1:a]i5;{tn}f}", true)
	holdFits(t, apart, 0, "{[s1:a]i5;{nt}f}", false)
	holdFits(t, apart, 0, "{[s1:a]i5;f{tn}}", false)
	holdFits(t, apart, 0, "{[i1;]i5;{tn}f}", false)
	holdFits(t, apart, 3, "{ti7;}", true)
	holdFits(t, apart, 3, "{i7;t}", false)
	holdFits(t, apart, 1, "[s0:s2:ab]", true)
	holdFits(t, apart, 7, "n", true)
	holdFits(t, apart, 6, "n", false)
}

// Values that fit, but for one within them.
func TestAllButOneFit(t *testing.T) {
	x := typeOf(list(-1), null(row(0)), leaf(0, 1), null(list(1)), list(3), leaf(2, 4))
	holdFits(t, x, 0, "[{i1;[[s1:a][]]}n{i2;n}{i3;[]}]", true)
	holdFits(t, x, 4, "[s1:as1:b]", true)
	for _, v := range []string{
		"[{i1;[[s1:a][]]}n{i2;n}{n[]}]",
		"[{i1;[[s1:a][]]}n{i2;n}{i3;[n]}]",
		"[{i1;[[s1:a][]]}n{i2;n}{t[]}]",
		"[{i1;[[s1:a][]]}ni2;{i3;[]}]",
		"[{i1;[[s1:a][]]}n{i2;}{i3;[]}]",
		"[{i1;[[s1:a][]]}n{i2;nn}{i3;[]}]",
		"[{i1;[[n][]]}n{i2;n}{i3;[]}]",
		"[{i1;[[s1:at][]]}n{i2;n}{i3;[]}]",
		"[{i1;[[s1:a]{}]}n{i2;n}{i3;[]}]",
		"[{i1;[[s1:a]n]}n{i2;n}{i3;[]}]",
		"[[i1;[[s1:a][]]]n{i2;n}{i3;[]}]",
		"[{i1;[[s17:12345678901234567][]]}n{i2;n}{i3;[]}]",
		"[{i1;[[" + strings.Repeat("s0:", 65) + "][]]}n{i2;n}{i3;[]}]",
		"{{i1;[[s1:a][]]}n{i2;n}{i3;[]}}",
	} {
		holdFits(t, x, 0, v, false)
		hold(t, v)
	}
	// Whichever of many it is.
	for n := 1; n <= api.MaxRows; n++ {
		vs := slices.Repeat([]string{"i5;"}, n)
		holdFits(t, typeOf(list(-1), leaf(0, 0)), 0, List(vs), true)
		for at := range vs {
			vs[at] = "n"
			holdFits(t, typeOf(list(-1), leaf(0, 0)), 0, List(vs), false)
			holdFits(t, typeOf(list(-1), null(leaf(0, 0))), 0, List(vs), true)
			vs[at] = "i5;"
		}
	}
}

func TestNoNode(t *testing.T) {
	for _, x := range []api.Type{
		typeOf(null(leaf(0, -1))), typeOf(null(list(-1)), null(leaf(1, 0))), typeOf(null(row(-1)), null(leaf(2, 0)), null(leaf(2, 0))),
		typeOf(null(row(-1)), null(row(0)), null(row(0)), null(leaf(0, 1)), null(leaf(0, 1)), null(leaf(0, 2)), null(leaf(0, 2)), null(leaf(0, 0))),
	} {
		for at := range x.Nodes {
			holdFits(t, x, at, "n", true)
		}
		n := len(x.Nodes)
		for _, at := range []int{least, least + 1, -1 << 32, -n, -3, -2, -1, n, n + 1, api.MaxNodes, 2 * n, 255, 256, 1 << 31, 1 << 32, greatest - 1, greatest} {
			if at < 0 || at >= n {
				holdFits(t, x, at, "n", false)
			}
		}
	}
}

// A type that may not be: nothing fits it, at no node of it, not even a value of that node's kind.
func TestNoType(t *testing.T) {
	nine := []api.Node{null(row(-1))}
	for range 8 {
		nine = append(nine, null(leaf(0, 0)))
	}
	for _, x := range []api.Type{
		{}, {Nodes: []api.Node{}}, typeOf(nine...),
		typeOf(null(leaf(0, 0))), typeOf(null(leaf(0, -2))), typeOf(null(leaf(5, -1))), typeOf(null(leaf(-1, -1))),
		typeOf(null(list(-1))), typeOf(null(row(-1))),
		typeOf(null(list(-1)), null(leaf(0, 0)), null(leaf(0, 0))),
		typeOf(null(row(-1)), null(leaf(0, 0)), null(leaf(0, 1))),
		typeOf(null(row(-1)), null(leaf(0, 0)), null(leaf(0, 2))),
		typeOf(null(row(-1)), null(leaf(0, 0)), null(leaf(0, 77))),
		typeOf(null(row(-1)), null(leaf(0, 0)), null(leaf(0, -1))),
		typeOf(null(row(-1)), null(leaf(0, 0)), null(leaf(0, least))),
		typeOf(null(row(-1)), null(leaf(0, 0)), null(leaf(0, greatest))),
		typeOf(null(list(-1)), null(list(0)), null(list(1)), null(list(2)), null(list(3)), null(leaf(0, 4))),
	} {
		for _, at := range []int{least, -1, 0, 1, 2, 3, len(x.Nodes) - 1, len(x.Nodes), greatest} {
			for _, v := range []string{"n", "i5;", "t", "s0:", "[]", "{}", "[n]", "{n}", "{nn}", "[nn]", "", "x"} {
				holdFits(t, x, at, v, false)
			}
		}
	}
}

func TestNoValueFits(t *testing.T) {
	wrong := []string{"", "x", "nn", "i", "i5", "i05;", "i-0;", "i+5;", "i9223372036854775808;", "s1:", "s2:a", "s-1:", "s01:a", "[", "]", "[n", "{n", "[}", "{]", "[n}", "[]]", "{n}}", "tf", "n ", "[n]n"}
	for _, x := range []api.Type{
		typeOf(null(leaf(0, -1))), typeOf(null(leaf(1, -1))), typeOf(null(leaf(2, -1))),
		typeOf(null(list(-1)), null(leaf(0, 0))), typeOf(null(row(-1)), null(leaf(2, 0))),
	} {
		for at, y := range places(x) {
			for _, v := range wrong {
				holdFits(t, y, at, v, false)
			}
		}
	}
	holdFits(t, typeOf(list(-1), leaf(0, 0)), 0, "[i5;i05;]", false)
	holdFits(t, typeOf(row(-1), leaf(2, 0)), 0, "{s1:a", false)
	holdFits(t, typeOf(list(-1), leaf(1, 0)), 0, strings.Repeat("[", api.MaxValue), false)
}

// As deep as types go; a text that is deeper has no node to be of.
func TestHowDeepAValueFits(t *testing.T) {
	x := typeOf(list(-1), list(0), list(1), list(2), leaf(0, 3))
	holdFits(t, x, 0, "[[[[i5;]]]]", true)
	holdFits(t, x, 0, "[[[[n]]]]", false)
	holdFits(t, x, 0, "[[[i5;]]]", false)
	holdFits(t, x, 0, "[[[[[]]]]]", false)
	holdFits(t, x, 0, "[[[[[i5;]]]]]", false)
	holdFits(t, x, 1, "[[[i5;]]]", true)
	holdFits(t, x, 4, "i5;", true)
	x = typeOf(row(-1), row(0), row(1), row(2), null(leaf(2, 3)))
	holdFits(t, x, 0, "{{{{n}}}}", true)
	holdFits(t, x, 0, "{{{{s1:a}}}}", true)
	holdFits(t, x, 0, "{{{{t}}}}", false)
	holdFits(t, x, 0, "{{{n}}}", false)
}

// mayFit tells whether v may be of a node, by what is known of texts.
func mayFit(nodes []api.Node, at int, v string) bool {
	k, ok := know(v)
	if !ok || k.kind == -1 {
		return ok && nodes[at].Null
	}
	var kids []int
	for i, n := range nodes {
		if n.Parent == at {
			kids = append(kids, i)
		}
	}
	many := map[int]bool{0: true, 1: true, 2: true, 3: len(k.parts) <= 64, 4: len(k.parts) == len(kids)}
	if k.kind != nodes[at].Kind || !many[k.kind] {
		return false
	}
	for i, part := range k.parts {
		switch k.kind {
		case 2:
			ok = len(part) <= 16
		case 3:
			ok = ok && mayFit(nodes, kids[0], part)
		case 4:
			ok = ok && mayFit(nodes, kids[i], part)
		}
	}
	return ok
}

// anyType is a type, by chance: below what has a kid at all there is one for certain.
func anyType(r *rnd) api.Type {
	var nodes []api.Node
	var add func(parent int, depth int)
	add = func(parent int, depth int) {
		n := api.Node{Kind: r.next(5), Parent: parent, Null: r.next(3) == 0}
		if depth == api.MaxDepth || len(nodes) >= 5 {
			n.Kind = r.next(3)
		}
		at := len(nodes)
		nodes = append(nodes, n)
		switch n.Kind {
		case api.KindList:
			add(at, depth+1)
		case api.KindStruct:
			add(at, depth+1)
			for len(nodes) < 5 && r.next(2) == 0 {
				add(at, depth+1)
			}
		}
	}
	add(-1, 0)
	return typeOf(nodes...)
}

// anyOf is a value of a node, by chance.
func anyOf(r *rnd, nodes []api.Node, at int) string {
	if nodes[at].Null && r.next(4) == 0 {
		return "n"
	}
	out := ""
	for i, n := range nodes {
		if n.Parent != at {
			continue
		}
		many := 1
		if nodes[at].Kind == api.KindList {
			many = r.next(4)
		}
		for range many {
			out += anyOf(r, nodes, i)
		}
	}
	switch nodes[at].Kind {
	case api.KindInt:
		return "i" + r.pick("0", "-1", "17", "9223372036854775807") + ";"
	case api.KindBool:
		return r.pick("t", "f")
	case api.KindBytes:
		s := strings.Repeat(r.pick("a", "]", "}", "\xff"), r.next(17))
		return "s" + strconv.Itoa(len(s)) + ":" + s
	case api.KindList:
		return "[" + out + "]"
	}
	return "{" + out + "}"
}

func TestMixedFits(t *testing.T) {
	r := rnd(3)
	yes, no := 0, 0
	for range 20000 {
		x := anyType(&r)
		for at := range x.Nodes {
			v := anyOf(&r, x.Nodes, at)
			holdFits(t, x, at, v, true)
			for _, v := range []string{v, spoiled(&r, v), anyValue(&r, 0), anyOf(&r, x.Nodes, r.next(len(x.Nodes)))} {
				want := mayFit(x.Nodes, at, v)
				holdFits(t, x, at, v, want)
				if want {
					yes++
				} else {
					no++
				}
			}
		}
	}
	if yes < 10000 || no < 10000 {
		t.Errorf("P7.3: %d that fit and %d that do not were held", yes, no)
	}
}
