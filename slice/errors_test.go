package slice

import (
	"strings"
	"testing"

	"quiver/api"
)

// span is where a slice begins, and how many rows it has.
type span struct{ from, count int }

// outside are ranges that an array of length rows does not have.
func outside(length int) []span {
	all := []span{
		{-1, 0}, {-1, 1}, {-1, length}, {-1, length + 1}, {-length, length}, {-length - 1, length}, {0, -1}, {1, -1}, {length, -1}, {length, -length - 1}, {length + 1, -1}, {length + 1, -length - 1}, {-1, -1}, {-length - 1, -1},
		{length + 1, 0}, {length + 2, 0}, {length + 1, 1}, {0, length + 1}, {1, length}, {length, 1}, {length / 2, length - length/2 + 1}, {api.MaxRows + 1, 0}, {0, api.MaxRows + 1}, {256 + length, 0}, {0, 256 + length}, {256, 256},
		{1 << 31, 1 << 31}, {-1 << 31, 1 << 31}, {1 << 32, 0}, {0, 1 << 32}, {1 << 32, 1 << 32}, {1<<32 + length, 0}, {1 << 62, 1 << 62}, {-1 << 62, 1 << 62}, {1 << 62, -1 << 62},
	}
	for _, x := range []int{least, least + 1, greatest, greatest - 1} {
		for _, y := range []int{least, least + 1, greatest, greatest - 1} {
			all = append(all, span{x, y})
		}
		for _, y := range []int{-1, 0, 1, 2, length, length + 1, -length} {
			all = append(all, span{x, y}, span{y, x})
		}
	}
	var beyond []span
	for _, r := range all {
		// -0 is no row ahead of the first one.
		if r != (span{0, 0}) || length != 0 {
			beyond = append(beyond, r)
		}
	}
	return beyond
}

// refuseAt holds that an error is told, and nothing beside it.
func refuseAt(t *testing.T, x api.Type, at int, a api.Array, r span, want api.Errno) {
	t.Helper()
	if got, e := Slice(x, at, a, r.from, r.count); !same(got, api.Array{}) || e != want {
		t.Errorf("P11.1: %d, %d at node %d of %v: %s: %s, %d; want %d", r.from, r.count, at, x, told(a), told(got), e, want)
	}
}

// refuseForm holds that an array may not be, whichever rows of it are asked for, those that are none too (R6).
func refuseForm(t *testing.T, x api.Type, at int, a api.Array) {
	t.Helper()
	for _, r := range append(outside(3), span{0, 0}, span{0, 1}, span{0, 3}, span{1, 1}, span{2, 1}, span{3, 0}) {
		refuseAt(t, x, at, a, r, api.ErrSliceForm)
	}
}

// refuse holds it of node 0, and of that node below a list and below a struct, though no row of theirs reaches it.
func refuse(t *testing.T, x api.Type, a api.Array) {
	t.Helper()
	refuseForm(t, x, 0, a)
	some, pair := moved(x, list(-1)), moved(x, row(-1), leaf(api.KindInt, 0))
	refuseForm(t, some, 1, a)
	refuseForm(t, some, 0, lists(0, a, 0, 0, 0, 0))
	refuseForm(t, some, 0, lists(0, a, 0))
	refuseForm(t, pair, 2, a)
	refuseForm(t, pair, 0, structs(0, 0, numbers(0), a))
	refuseForm(t, pair, 0, structs(0, 3, numbers(0, 1, 2, 3), a))
	deep := moved(some, row(-1), leaf(api.KindBool, 0))
	refuseForm(t, deep, 0, structs(0, 0, truths(0, 0, ""), lists(0, a, 0)))
	refuseForm(t, moved(deep, list(-1)), 0, lists(0, structs(0, 0, truths(0, 0, ""), lists(0, a, 0)), 0, 0, 0, 0))
}

func TestNoType(t *testing.T) {
	nine := []api.Node{row(-1)}
	for range 8 {
		nine = append(nine, leaf(0, 0))
	}
	for _, x := range []api.Type{
		{}, {Nodes: []api.Node{}}, typeOf(nine...),
		typeOf(leaf(0, 0)), typeOf(leaf(0, -2)), typeOf(leaf(5, -1)), typeOf(leaf(-1, -1)), typeOf(leaf(least, -1)), typeOf(null(leaf(greatest, -1))),
		typeOf(list(-1)), typeOf(row(-1)), typeOf(null(list(-1)), leaf(0, 0), leaf(0, 0)), typeOf(leaf(0, -1), leaf(0, 0)),
		typeOf(row(-1), leaf(0, 0), leaf(0, 1)), typeOf(row(-1), leaf(0, 0), leaf(0, 2)), typeOf(row(-1), leaf(0, 0), leaf(0, -1)), typeOf(row(-1), leaf(0, 0), leaf(0, greatest)),
		typeOf(row(-1), leaf(0, 0), leaf(7, 0)), typeOf(row(-1), leaf(0, 0), list(0)),
		typeOf(list(-1), list(0), list(1), list(2), list(3), leaf(0, 4)),
	} {
		for _, at := range []int{least, -1, 0, 1, 2, 3, len(x.Nodes) - 1, len(x.Nodes), greatest} {
			for _, a := range []api.Array{{}, numbers(0, 1, 2, 3), texts(0, "a", "b", "c"), lists(0, numbers(0, 1, 2, 3), 0, 1, 2, 3), structs(0, 3, numbers(0, 1, 2, 3)), structs(0, 3, numbers(0, 1, 2, 3), numbers(0, 1, 2, 3))} {
				refuseForm(t, x, at, a)
			}
		}
	}
}

func TestNoNode(t *testing.T) {
	wide := typeOf(row(-1), leaf(0, 0), list(0), leaf(0, 2))
	for _, x := range []api.Type{ints, mayInts, wide} {
		n := len(x.Nodes)
		for _, at := range []int{least, least + 1, -1 << 32, -n, -3, -2, -1, n, n + 1, 2 * n, api.MaxNodes, 256, 1 << 31, 1 << 32, 1<<32 + 1, greatest - 1, greatest} {
			if at < 0 || at >= n {
				refuseForm(t, x, at, numbers(0, 1, 2, 3))
				refuseForm(t, x, at, api.Array{})
			}
		}
	}
}

// Of a type's nodes the one that is asked about counts, and no other.
func TestWhichNode(t *testing.T) {
	x := typeOf(row(-1), list(0), leaf(0, 0), null(row(0)), leaf(2, 1), leaf(1, 3), null(leaf(0, 3)))
	words, few := texts(1, "x", "a", "b"), numbers(1, 9, 7, 8)
	many := lists(1, words, 0, 0, 1, 2)
	pairs := lacking(structs(0, 3, truths(0, 3, "\x05"), lacking(numbers(1, 9, 4, 5, 6), "\x06")), "\x06")
	rows := structs(0, 2, many, few, pairs)
	holdAt(t, x, 0, rows, "{[s1:a]i7;n}", "{[s1:b]i8;{fi5;}}")
	holdAt(t, x, 1, many, "[s1:a]", "[s1:b]")
	holdAt(t, x, 2, few, "i7;", "i8;")
	holdAt(t, x, 3, pairs, "n", "{fi5;}", "{tn}")
	holdAt(t, x, 4, words, "s1:a", "s1:b")
	holdAt(t, x, 6, lacking(few, "\x04"), "n", "i8;")
	// The same buffers are truths at a node of truths, numbers at one of numbers.
	holdAt(t, x, 5, few, "f", "f")
	for at, a := range []api.Array{rows, many, few, pairs, words} {
		for other := range 7 {
			if other != at && at != 2 {
				refuseForm(t, x, other, a)
			}
		}
	}
	refuseForm(t, x, 2, lacking(few, "\x07"))
}

// As they are, of each kind; also where the fault stands in no row that is asked for, or in what no row needs.
func TestNoArray(t *testing.T) {
	three, words := numbers(0, 1, 2, 3), texts(0, "a", "b", "c")
	for _, a := range []api.Array{
		{Offset: -1, Length: 3, Data: three.Data}, {Length: -1}, {Length: least}, {Length: greatest}, {Offset: least, Length: least}, {Offset: greatest, Length: greatest},
		{Offset: 1, Length: 3, Data: three.Data}, {Length: 4, Data: three.Data}, {Length: 3, Data: three.Data[1:]}, {Length: 3}, {Length: 65, Data: strings.Repeat("\x00", 65*8)}, {Offset: 1, Length: 64, Data: strings.Repeat("\x00", 65*8)},
		{Length: 3, Data: strings.Repeat("\x00", api.MaxBuffer+1)}, lacking(three, "\x07"), {Length: 3, Data: three.Data, Ends: fours(0)}, {Length: 3, Data: three.Data, Kids: []api.Array{{}}}, {Layout: 3, Length: 3, Data: three.Data}, {Layout: -1, Length: 3, Data: three.Data}, words,
	} {
		refuse(t, ints, a)
	}
	for _, a := range []api.Array{lacking(three, strings.Repeat("\xff", api.MaxBuffer+1)), lacking(numbers(6, 1, 2, 3, 4, 5, 6, 7, 8, 9), "\xff")} {
		refuse(t, mayInts, a)
	}
	for _, a := range []api.Array{
		with(words, func(a *api.Array) { a.Ends = a.Ends[:15] }), with(words, func(a *api.Array) { a.Data = "ab" }), {Length: 3, Ends: fours(0, 2, 1, 3), Data: "abc"}, {Offset: 2, Length: 1, Ends: fours(2, 1, 1, 3), Data: "abc"},
		{Length: 3, Ends: fours(0, 17, 17, 17), Data: strings.Repeat("a", 17)}, {Length: 3, Ends: fours(0, 1, 1<<31, 3), Data: "abc"}, {Length: 0, Ends: "\x00\x00\x00"}, three,
	} {
		refuse(t, bytes, a)
	}
	refuse(t, bools, truths(3, 6, "\xff"))
	some := typeOf(list(-1), leaf(0, 0))
	for _, a := range []api.Array{lists(0, three, 0, 1, 4, 4), lists(0, three, 0, 2, 1, 3), with(lists(0, three, 0, 1, 2, 3), func(a *api.Array) { a.Kids = nil }), with(lists(0, three, 0, 1, 2, 3), func(a *api.Array) { a.Kids = append(a.Kids, three) }), with(lists(0, three, 0, 1, 2, 3), func(a *api.Array) { a.Data = "\x00" }), three, words} {
		refuse(t, some, a)
	}
	pair := typeOf(row(-1), leaf(0, 0), leaf(0, 0))
	for _, a := range []api.Array{structs(0, 3, three), structs(0, 3, three, three, three), structs(1, 3, three, three), structs(0, 3, three, numbers(1, 1, 2, 3)), structs(0, 3, three, words), with(structs(0, 3, three, three), func(a *api.Array) { a.Ends = fours(0) })} {
		refuse(t, pair, a)
	}
}

func TestNoDictNoRun(t *testing.T) {
	three, may := numbers(0, 1, 2, 3), lacking(numbers(0, 1, 2, 3), "\x07")
	for _, a := range []api.Array{
		dict(0, three, 0, 1, 2, 3), dict(0, three, 0, 1<<31, 1), dict(0, may, 0, 1, 2), dict(0, dict(0, three, 0, 1, 2), 0, 1, 2), dict(0, run(0, 3, three, 1, 2, 3), 0, 1, 2), dict(0, texts(0, "a", "b", "c"), 0, 1, 2),
		with(dict(0, three, 0, 1, 2), func(a *api.Array) { a.Kids = nil }), with(dict(0, three, 0, 1, 2), func(a *api.Array) { a.Data = a.Data[1:] }), with(dict(0, three, 0, 1, 2), func(a *api.Array) { a.Ends = fours(0) }), lacking(dict(1, three, 0, 1, 2, 0, 1, 2, 0, 1, 2), "\xff"),
		run(0, 3, three, 1, 2), run(0, 3, three, 1, 2, 3, 4), run(0, 4, three, 1, 2, 3), run(1, 3, three, 1, 2, 3), run(0, 3, three, 0, 2, 3), run(0, 3, three, 1, 1, 3), run(0, 3, three, 2, 1, 3), run(0, 3, three, 1, 2, 1<<31), run(0, 1, numbers(0)),
		lacking(run(0, 3, three, 1, 2, 3), "\x07"), run(0, 3, run(0, 3, three, 1, 2, 3), 1, 2, 3), run(0, 3, dict(0, three, 0, 1, 2), 1, 2, 3), run(0, 3, texts(0, "a", "b", "c"), 1, 2, 3), with(run(0, 3, three, 1, 2, 3), func(a *api.Array) { a.Kids = append(a.Kids, three) }),
	} {
		refuse(t, mayInts, a)
	}
	some, pair := typeOf(list(-1), leaf(0, 0)), typeOf(row(-1), leaf(0, 0))
	many, rows := lists(0, three, 0, 1, 2, 3), structs(0, 3, three)
	refuse(t, some, dict(0, many, 0, 1, 2))
	refuse(t, some, run(0, 3, many, 1, 2, 3))
	refuse(t, pair, dict(0, rows, 0, 1, 2))
	refuse(t, pair, run(0, 3, rows, 1, 2, 3))
}

// R1: kids that stand within themselves are refused, where the type has an end.
func TestKidsWithinThemselves(t *testing.T) {
	for _, x := range []api.Type{ints, typeOf(list(-1), list(0), leaf(1, 1)), typeOf(row(-1), row(0), leaf(2, 1))} {
		for layout := range 4 {
			kids := make([]api.Array, 1)
			kids[0] = api.Array{Layout: layout, Length: 1, Kids: kids}
			if x.Nodes[0].Kind == api.KindList {
				kids[0].Ends = fours(0, 1)
			}
			for at := range x.Nodes {
				// No fault is told by the array, which has no end.
				if got, e := Slice(x, at, kids[0], 0, 1); !same(got, api.Array{}) || e != api.ErrSliceForm {
					t.Errorf("P11.1: at node %d of %v: %d; want ErrSliceForm", at, x, e)
				}
			}
		}
	}
}

// Each number alone, the other one as it may be.
func TestNoRange(t *testing.T) {
	x, as := mixed()
	for at, a := range map[int]api.Array{0: as[0], 1: as[0].Kids[0], 3: as[0].Kids[1], 4: as[0].Kids[2]} {
		n := a.Length
		for i := range n + 1 {
			for _, bad := range []int{least, least + 1, least + n, -1 << 62, -1 << 32, -1 << 31, -65, -n - 1, -n, -2, -1, n + 1, n + 2, n + 64, api.MaxRows + 1, 255, 256, 1 << 31, 1 << 32, 1<<32 + 1, 1 << 62, greatest - n, greatest - 1, greatest} {
				if bad != 0 {
					refuseAt(t, x, at, a, span{bad, i}, api.ErrSliceRange)
					refuseAt(t, x, at, a, span{i, bad}, api.ErrSliceRange)
					refuseAt(t, x, at, a, span{bad, bad}, api.ErrSliceRange)
				}
			}
			refuseAt(t, x, at, a, span{i, n - i + 1}, api.ErrSliceRange)
			refuseAt(t, x, at, a, span{n - i + 1, i}, api.ErrSliceRange)
		}
	}
}
