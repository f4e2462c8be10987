package take

import (
	"slices"
	"strings"
	"testing"

	"quiver/api"
	"quiver/array"
	"quiver/build"
	"quiver/types"
)

// refuseAt holds that an error is told, and nothing beside it.
func refuseAt(t *testing.T, x api.Type, at int, a api.Array, want api.Errno, rows ...int) {
	t.Helper()
	if got, e := Take(x, at, a, rows); !same(got, api.Array{}) || e != want {
		t.Errorf("P13.1: %s at node %d of %v: %s: %s, %d; want %d", few(rows), at, x, told(a), told(got), e, want)
	}
}

// small is a value of a node, none within it nothing; a list of one.
func small(x api.Type, at int) string {
	var in []string
	kids, _ := types.Kids(x, at)
	for _, kid := range kids {
		in = append(in, small(x, kid))
	}
	switch x.Nodes[at].Kind {
	case api.KindInt:
		return "i7;"
	case api.KindBool:
		return "t"
	case api.KindBytes:
		return "s1:a"
	case api.KindList:
		return listed(in)
	}
	return "{" + strings.Join(in, "") + "}"
}

// goods are arrays of a node that may be; where no array can be, some that might be one's.
func goods(x api.Type, at int) []api.Array {
	if !types.May(x) || at < 0 || at >= len(x.Nodes) {
		return []api.Array{{}, numbers(0, 1, 2, 3), texts(0, "a", "b", "c"), lists(0, numbers(0, 1, 2, 3), 0, 1, 2, 3), structs(0, 3, numbers(0, 1, 2, 3), numbers(0, 1, 2, 3))}
	}
	var all []api.Array
	for _, n := range []int{0, 1, 3, api.MaxRows} {
		a, _ := build.Build(x, at, times(n, small(x, at)))
		all = append(all, a)
	}
	return all
}

// refuseForm holds that an array may not be, whichever of its rows are asked for, also where one of these is none, or they are too many (R6).
func refuseForm(t *testing.T, x api.Type, at int, a api.Array) {
	t.Helper()
	for _, rows := range [][]int{nil, {}, {0}, {2, 0}, {-1}, {3}, {64}, {least}, {0, greatest}, make([]int, api.MaxRows), make([]int, api.MaxRows+1), append(make([]int, api.MaxRows+1), -1)} {
		refuseAt(t, x, at, a, api.ErrTakeForm, rows...)
	}
}

// refuse holds it of node 0, and of that node below a list and below a struct, though no row of theirs reaches it.
func refuse(t *testing.T, x api.Type, a api.Array) {
	t.Helper()
	refuseForm(t, x, 0, a)
	some, pair := moved(x, list(-1)), moved(x, row(-1), leaf(api.KindInt, 0))
	refuseForm(t, some, 1, a)
	refuseForm(t, some, 0, lists(0, a, 0, 0, 0, 0))
	refuseForm(t, some, 0, lists(0, a, 0))
	refuseForm(t, some, 0, lists(0, a, make([]int, api.MaxRows+1)...))
	refuseForm(t, pair, 2, a)
	refuseForm(t, pair, 0, structs(0, 0, numbers(0), a))
	refuseForm(t, pair, 0, structs(0, 3, numbers(0, 1, 2, 3), a))
	deep := moved(some, row(-1), leaf(api.KindBool, 0))
	refuseForm(t, deep, 0, structs(0, 0, truths(0, 0, ""), lists(0, a, 0)))
	refuseForm(t, moved(deep, list(-1)), 0, lists(0, structs(0, 0, truths(0, 0, ""), lists(0, a, 0)), 0, 0, 0, 0))
}

func TestNoType(t *testing.T) {
	nine := []api.Node{row(-1)}
	for range 8 {
		nine = append(nine, leaf(0, 0))
	}
	for _, x := range []api.Type{
		{}, {Nodes: []api.Node{}}, typeOf(nine...),
		typeOf(leaf(0, 0)), typeOf(leaf(0, -2)), typeOf(leaf(5, -1)), typeOf(leaf(-1, -1)), typeOf(leaf(least, -1)), typeOf(null(leaf(greatest, -1))),
		typeOf(list(-1)), typeOf(row(-1)), typeOf(null(list(-1)), leaf(0, 0), leaf(0, 0)), typeOf(leaf(0, -1), leaf(0, 0)),
		typeOf(row(-1), leaf(0, 0), leaf(0, 1)), typeOf(row(-1), leaf(0, 0), leaf(0, 2)), typeOf(row(-1), leaf(0, 0), leaf(0, -1)), typeOf(row(-1), leaf(0, 0), leaf(0, greatest)),
		typeOf(row(-1), leaf(0, 0), leaf(7, 0)), typeOf(row(-1), leaf(0, 0), list(0)),
		typeOf(list(-1), list(0), list(1), list(2), list(3), leaf(0, 4)),
	} {
		for _, at := range []int{least, -1, 0, 1, 2, 3, len(x.Nodes) - 1, len(x.Nodes), greatest} {
			for _, a := range goods(x, at) {
				refuseForm(t, x, at, a)
			}
		}
	}
}

func TestNoNode(t *testing.T) {
	wide := typeOf(row(-1), leaf(0, 0), list(0), leaf(0, 2))
	for _, x := range []api.Type{ints, mayInts, wide} {
		n := len(x.Nodes)
		for _, at := range []int{least, least + 1, -1 << 32, -n, -3, -2, -1, n, n + 1, 2 * n, api.MaxNodes, 256, 1 << 31, 1 << 32, 1<<32 + 1, greatest - 1, greatest} {
			if at < 0 || at >= n {
				for _, a := range goods(x, at) {
					refuseForm(t, x, at, a)
				}
			}
		}
	}
}

// Arrays of one node may not be another one's.
func TestOtherNodes(t *testing.T) {
	x := typeOf(row(-1), list(0), leaf(0, 0), null(row(0)), leaf(2, 1), leaf(1, 3), null(leaf(0, 3)))
	for at := range x.Nodes {
		for other := range x.Nodes {
			for _, a := range goods(x, other) {
				if !array.May(x, at, a) {
					refuseForm(t, x, at, a)
				}
			}
		}
	}
	refuseForm(t, x, 2, lacking(numbers(0, 1, 2, 3), "\x07"))
}

// As they are, of each kind; also where the fault stands in what no row needs.
func TestNoArray(t *testing.T) {
	three, words := numbers(0, 1, 2, 3), texts(0, "a", "b", "c")
	for _, a := range []api.Array{
		{Offset: -1, Length: 3, Data: three.Data}, {Length: -1}, {Length: least}, {Length: greatest}, {Offset: least, Length: least}, {Offset: greatest, Length: greatest},
		{Offset: 1, Length: 3, Data: three.Data}, {Length: 4, Data: three.Data}, {Length: 3, Data: three.Data[1:]}, {Length: 3}, {Length: 65, Data: strings.Repeat("\x00", 65*8)}, {Offset: 1, Length: 64, Data: strings.Repeat("\x00", 65*8)},
		{Length: 3, Data: strings.Repeat("\x00", api.MaxBuffer+1)}, lacking(three, "\x07"), {Length: 3, Data: three.Data, Ends: fours(0)}, {Length: 3, Data: three.Data, Kids: []api.Array{{}}}, {Layout: 3, Length: 3, Data: three.Data}, {Layout: -1, Length: 3, Data: three.Data}, words,
	} {
		refuse(t, ints, a)
	}
	for _, a := range []api.Array{lacking(three, strings.Repeat("\xff", api.MaxBuffer+1)), lacking(numbers(6, 1, 2, 3, 4, 5, 6, 7, 8, 9), "\xff")} {
		refuse(t, mayInts, a)
	}
	for _, a := range []api.Array{
		with(words, func(a *api.Array) { a.Ends = a.Ends[:15] }), with(words, func(a *api.Array) { a.Data = "ab" }), {Length: 3, Ends: fours(0, 2, 1, 3), Data: "abc"}, {Offset: 2, Length: 1, Ends: fours(2, 1, 1, 3), Data: "abc"},
		{Length: 3, Ends: fours(0, 17, 17, 17), Data: strings.Repeat("a", 17)}, {Length: 3, Ends: fours(0, 1, 1<<31, 3), Data: "abc"}, {Length: 0, Ends: "\x00\x00\x00"}, {}, three,
	} {
		refuse(t, bytes, a)
	}
	refuse(t, bools, truths(3, 6, "\xff"))
	some := typeOf(list(-1), leaf(0, 0))
	for _, a := range []api.Array{lists(0, three, 0, 1, 4, 4), lists(0, three, 0, 2, 1, 3), with(lists(0, three, 0, 1, 2, 3), func(a *api.Array) { a.Kids = nil }), with(lists(0, three, 0, 1, 2, 3), func(a *api.Array) { a.Kids = append(a.Kids, three) }), with(lists(0, three, 0, 1, 2, 3), func(a *api.Array) { a.Data = "\x00" }), {}, three, words} {
		refuse(t, some, a)
	}
	pair := typeOf(row(-1), leaf(0, 0), leaf(0, 0))
	for _, a := range []api.Array{structs(0, 3, three), structs(0, 3, three, three, three), structs(1, 3, three, three), structs(0, 3, three, numbers(1, 1, 2, 3)), structs(0, 3, three, words), with(structs(0, 3, three, three), func(a *api.Array) { a.Ends = fours(0) }), {}} {
		refuse(t, pair, a)
	}
}

func TestNoDictNoRun(t *testing.T) {
	three, may := numbers(0, 1, 2, 3), lacking(numbers(0, 1, 2, 3), "\x07")
	for _, a := range []api.Array{
		dict(0, three, 0, 1, 2, 3), dict(0, three, 0, 1<<31, 1), dict(0, may, 0, 1, 2), dict(0, dict(0, three, 0, 1, 2), 0, 1, 2), dict(0, run(0, 3, three, 1, 2, 3), 0, 1, 2), dict(0, texts(0, "a", "b", "c"), 0, 1, 2),
		with(dict(0, three, 0, 1, 2), func(a *api.Array) { a.Kids = nil }), with(dict(0, three, 0, 1, 2), func(a *api.Array) { a.Data = a.Data[1:] }), with(dict(0, three, 0, 1, 2), func(a *api.Array) { a.Ends = fours(0) }), lacking(dict(1, three, 0, 1, 2, 0, 1, 2, 0, 1, 2), "\xff"),
		run(0, 3, three, 1, 2), run(0, 3, three, 1, 2, 3, 4), run(0, 4, three, 1, 2, 3), run(1, 3, three, 1, 2, 3), run(0, 3, three, 0, 2, 3), run(0, 3, three, 1, 1, 3), run(0, 3, three, 2, 1, 3), run(0, 3, three, 1, 2, 1<<31), run(0, 1, numbers(0)),
		lacking(run(0, 3, three, 1, 2, 3), "\x07"), run(0, 3, run(0, 3, three, 1, 2, 3), 1, 2, 3), run(0, 3, dict(0, three, 0, 1, 2), 1, 2, 3), run(0, 3, texts(0, "a", "b", "c"), 1, 2, 3), with(run(0, 3, three, 1, 2, 3), func(a *api.Array) { a.Kids = append(a.Kids, three) }),
	} {
		refuse(t, mayInts, a)
	}
	some, pair := typeOf(list(-1), leaf(0, 0)), typeOf(row(-1), leaf(0, 0))
	many, rows := lists(0, three, 0, 1, 2, 3), structs(0, 3, three)
	refuse(t, some, dict(0, many, 0, 1, 2))
	refuse(t, some, run(0, 3, many, 1, 2, 3))
	refuse(t, pair, dict(0, rows, 0, 1, 2))
	refuse(t, pair, run(0, 3, rows, 1, 2, 3))
}

// R1: kids that stand within themselves are refused, where the type has an end.
func TestKidsWithinThemselves(t *testing.T) {
	for _, x := range []api.Type{ints, typeOf(list(-1), list(0), leaf(1, 1)), typeOf(row(-1), row(0), leaf(2, 1))} {
		for layout := range 4 {
			kids := make([]api.Array, 1)
			kids[0] = api.Array{Layout: layout, Length: 1, Kids: kids}
			if x.Nodes[0].Kind == api.KindList {
				kids[0].Ends = fours(0, 1)
			}
			for at := range x.Nodes {
				for _, rows := range [][]int{nil, {0}, {1}, make([]int, api.MaxRows+1)} {
					// No fault is told by the array, which has no end.
					if got, e := Take(x, at, kids[0], rows); !same(got, api.Array{}) || e != api.ErrTakeForm {
						t.Errorf("P13.1: %v at node %d of %v: %d; want ErrTakeForm", rows, at, x, e)
					}
				}
			}
		}
	}
}

// outside are numbers of no row, where there are length rows.
func outside(length int) []int {
	return []int{
		-1, -2, -length - 1, -length - 2, -api.MaxRows, -255, -256, -1 << 31, -1<<31 - 1, -1 << 32, length - 1<<32, -1 << 62, least, least + 1, least + length,
		length, length + 1, length + 2, 2*length + 1, api.MaxRows, api.MaxRows + 1, 255, 256, 256 + length, 1<<31 - 1, 1 << 31, 1 << 32, 1<<32 + 1, 1<<32 + length, 1 << 62, greatest - length, greatest - 1, greatest,
	}
}

// refuseRange holds that a number is none of a row of an array that may be: alone, twice, ahead of rows, behind them and between, and among too many (R6).
func refuseRange(t *testing.T, x api.Type, at int, a api.Array, bad int) {
	t.Helper()
	refuseAt(t, x, at, a, api.ErrTakeRange, bad)
	refuseAt(t, x, at, a, api.ErrTakeRange, bad, bad)
	refuseAt(t, x, at, a, api.ErrTakeRange, slices.Repeat([]int{bad}, api.MaxRows+1)...)
	if a.Length == 0 {
		return
	}
	last := a.Length - 1
	for _, n := range []int{1, 2, 32, 63, 64, 65, 200} {
		rows := append(slices.Repeat([]int{last}, n), 0)
		refuseAt(t, x, at, a, api.ErrTakeRange, slices.Concat([]int{bad}, rows)...)
		refuseAt(t, x, at, a, api.ErrTakeRange, slices.Concat(rows, []int{bad})...)
		refuseAt(t, x, at, a, api.ErrTakeRange, slices.Concat(rows[:n/2], []int{bad}, rows[n/2:])...)
	}
}

// Where the first row and the last one are rows, with rows of the buffers ahead of them and behind them that are none.
func TestNoRow(t *testing.T) {
	for _, c := range onces() {
		for _, p := range append(layouts(c.all[0]), layouts(c.all[1])...) {
			n := len(p.vs)
			for _, bad := range outside(n) {
				refuseRange(t, c.must, 0, p.a, bad)
				refuseRange(t, c.may, 0, p.a, bad)
				refuseRange(t, moved(c.must, list(-1)), 1, p.a, bad)
			}
			for _, bad := range outside(3) {
				refuseRange(t, moved(c.must, list(-1)), 0, lists(1, p.a, 0, 0, 0, n, n), bad)
			}
		}
	}
	for _, c := range nested() {
		for _, p := range c.all {
			for _, bad := range outside(len(p.vs)) {
				refuseRange(t, c.x, 0, p.a, bad)
			}
		}
	}
	for n := range api.MaxRows + 1 {
		p := pileOf(numbers(api.MaxRows-n, make([]int, api.MaxRows)...), times(n, "i0;")...)
		for _, bad := range outside(n) {
			refuseRange(t, ints, 0, p.a, bad)
		}
		for i := range n {
			holdAt(t, ints, 0, p, i)
		}
	}
}

// Of an empty array each number is one of no row, whatever the buffers hold.
func TestNoRowOfNone(t *testing.T) {
	three := numbers(0, 1, 2, 3)
	for _, c := range []struct {
		x    api.Type
		some []api.Array
	}{
		{ints, []api.Array{{}, {Data: strings.Repeat("a", 512)}, numbers(3, 1, 2, 3), {Offset: 64, Data: strings.Repeat("a", 512)}, dict(0, three), dict(2, three, 0, 1), run(0, 0, api.Array{}), run(2, 0, three, 1, 2, 5)}},
		{bytes, []api.Array{texts(0), texts(2, "a", "b"), {Ends: fours(0, 1), Data: "a"}}},
		{typeOf(list(-1), leaf(0, 0)), []api.Array{lists(0, three, 0), lists(1, three, 0, 3), lists(0, three, 0, 1, 2, 3)}},
		{typeOf(row(-1), leaf(0, 0)), []api.Array{structs(0, 0, three), structs(3, 0, three)}},
	} {
		for _, a := range c.some {
			a.Length = 0
			for _, bad := range append(outside(0), 0, 1, 2, 3) {
				refuseRange(t, c.x, 0, a, bad)
			}
			holdAt(t, c.x, 0, pileOf(a))
		}
	}
}

// R6: a number of no row is told ahead of too many rows within.
func TestNoRowAndTooMany(t *testing.T) {
	x := typeOf(list(-1), leaf(1, 0))
	p := built(t, x, truthLists([]int{33, 31, 0}))
	refuseAt(t, x, 0, p.a, api.ErrTakeFull, 0, 0)
	for _, bad := range outside(3) {
		refuseAt(t, x, 0, p.a, api.ErrTakeRange, bad, 0, 0)
		refuseAt(t, x, 0, p.a, api.ErrTakeRange, 0, bad, 0)
		refuseAt(t, x, 0, p.a, api.ErrTakeRange, 0, 0, bad)
	}
}

// fulls are arrays of each kind, in each layout, of any rows of MaxRows.
func fulls() []struct {
	x  api.Type
	of func(offset int, length int) api.Array
	v  string
} {
	all := func(a api.Array) func(offset int, length int) api.Array {
		return func(offset int, length int) api.Array {
			return with(a, func(a *api.Array) { a.Offset, a.Length = offset, length })
		}
	}
	sevens := numbers(0, slices.Repeat([]int{7}, api.MaxRows)...)
	none := strings.Repeat("\x00", api.MaxRows/8)
	return []struct {
		x  api.Type
		of func(offset int, length int) api.Array
		v  string
	}{
		{ints, all(sevens), "i7;"}, {mayInts, all(lacking(sevens, none)), "n"},
		{ints, all(dict(0, sevens, make([]int, api.MaxRows)...)), "i7;"}, {mayInts, all(lacking(dict(0, api.Array{}, make([]int, api.MaxRows)...), none)), "n"},
		{ints, all(run(0, api.MaxRows, numbers(0, 7), api.MaxRows)), "i7;"}, {mayInts, all(run(0, api.MaxRows, lacking(numbers(0, 7), "\x00"), api.Most)), "n"},
		{bools, all(truths(0, api.MaxRows, none)), "f"}, {bools, all(run(0, 0, truths(0, 1, "\x01"), api.MaxRows)), "t"},
		{bytes, all(texts(0, times(api.MaxRows, "0123456789abcdef")...)), "s16:0123456789abcdef"}, {bytes, all(dict(0, texts(0, ""), make([]int, api.MaxRows)...)), "s0:"},
		{typeOf(list(-1), leaf(0, 0)), all(lists(0, sevens, make([]int, api.MaxRows+1)...)), "[]"}, {typeOf(null(list(-1)), leaf(0, 0)), all(lacking(lists(0, sevens, append(make([]int, api.MaxRows), api.MaxRows)...), none)), "n"},
		{typeOf(row(-1), leaf(0, 0)), all(structs(0, api.MaxRows, sevens)), "{i7;}"}, {typeOf(null(row(-1)), leaf(0, 0)), all(lacking(structs(0, api.MaxRows, sevens), none)), "n"},
	}
}

// MaxRows rows at the top are no error, one more is, however few rows the array has, and however often each is taken.
func TestRows(t *testing.T) {
	for _, c := range fulls() {
		for _, n := range []int{1, 2, 3, 63, 64} {
			for _, offset := range []int{0, (api.MaxRows - n) / 2, api.MaxRows - n} {
				p := pileOf(c.of(offset, n), times(n, c.v)...)
				for _, i := range []int{0, n / 2, n - 1} {
					rows := slices.Repeat([]int{i, 0}, 100)
					holdAt(t, c.x, 0, p, rows[:63]...)
					holdAt(t, c.x, 0, p, rows[:64]...)
					for _, many := range []int{65, 66, 100, 128, 129, 200} {
						refuseAt(t, c.x, 0, p.a, api.ErrTakeFull, rows[:many]...)
					}
				}
			}
		}
	}
	// So many are refused soon, though each of them were long.
	x := typeOf(list(-1), leaf(2, 0))
	long := lists(0, texts(0, times(api.MaxRows, "0123456789abcdef")...), 0, api.MaxRows)
	refuseAt(t, x, 0, long, api.ErrTakeFull, make([]int, 1<<22)...)
}

// truthLists gives lists of so many truths each.
func truthLists(counts []int) []string {
	var vs []string
	for _, n := range counts {
		vs = append(vs, listed(times(n, "t")))
	}
	return vs
}

// nests are ways in which a type stands below others, and each of its values within another one.
func nests() []struct {
	moved    func(x api.Type) api.Type
	from, to string
} {
	below := func(ahead ...api.Node) func(x api.Type) api.Type {
		return func(x api.Type) api.Type { return moved(x, ahead...) }
	}
	return []struct {
		moved    func(x api.Type) api.Type
		from, to string
	}{
		{func(x api.Type) api.Type { return x }, "", ""},
		{below(list(-1)), "[", "]"},
		{below(null(list(-1))), "[", "]"},
		{below(row(-1)), "{", "}"},
		{below(row(-1), leaf(0, 0)), "{i5;", "}"},
		{below(null(row(-1)), null(leaf(2, 0))), "{n", "}"},
		{func(x api.Type) api.Type { return moved(moved(x, list(-1)), list(-1)) }, "[[", "]]"},
		{func(x api.Type) api.Type { return moved(moved(x, list(-1)), row(-1)) }, "{[", "]}"},
		{func(x api.Type) api.Type { return moved(moved(x, null(row(-1))), list(-1)) }, "[{", "}]"},
		// A kid that has room ahead of this one, and behind it.
		{func(api.Type) api.Type { return typeOf(row(-1), list(0), leaf(0, 1), list(0), leaf(1, 3)) }, "{[i1;]", "}"},
		{func(api.Type) api.Type { return typeOf(row(-1), list(0), leaf(1, 1), list(0), leaf(0, 3)) }, "{", "[i1;]}"},
	}
}

// built is the pile that layer 10 builds of values of a type's first node.
func built(t *testing.T, x api.Type, vs []string) pile {
	t.Helper()
	a, e := build.Build(x, 0, vs)
	if e != api.OK {
		t.Fatalf("of %v: %q: %d", x, vs, e)
	}
	return pileOf(a, vs...)
}

// parts are how many truths each list has, and which of the lists are taken: 64 in all of those, or more.
func parts() []struct {
	counts, rows []int
	ok           bool
} {
	return []struct {
		counts, rows []int
		ok           bool
	}{
		{[]int{64}, []int{0}, true}, {[]int{64}, []int{0, 0}, false},
		{[]int{32}, []int{0, 0}, true}, {[]int{33}, []int{0, 0}, false}, {[]int{32, 1}, []int{0, 0, 1}, false},
		{[]int{1}, make([]int, 64), true}, {[]int{2}, make([]int, 32), true}, {[]int{2}, make([]int, 33), false}, {[]int{16, 0}, []int{0, 1, 0, 1, 0, 1, 0, 1}, true}, {[]int{13}, make([]int, 5), false},
		{[]int{40, 24}, []int{0, 1}, true}, {[]int{40, 24}, []int{1, 0}, true}, {[]int{40, 24}, []int{1, 1}, true}, {[]int{40, 24}, []int{0, 0}, false}, {[]int{40, 24}, []int{1, 1, 1}, false}, {[]int{40, 0, 24}, []int{2, 1, 0, 1}, true}, {[]int{40, 1, 23}, []int{0, 2, 1}, true}, {[]int{40, 1, 23}, []int{0, 2, 1, 1}, false},
		{[]int{0, 20, 12}, []int{1, 2, 0, 1, 2}, true}, {[]int{0, 20, 12}, []int{1, 2, 0, 1, 1}, false}, {[]int{21, 22}, []int{0, 1, 0}, true}, {[]int{21, 22}, []int{1, 0, 1}, false},
		{[]int{64}, nil, true}, {[]int{63, 1}, []int{0, 1}, true}, {[]int{63, 1}, []int{0, 1, 1}, false}, {[]int{63, 1}, []int{1, 1, 0}, false}, {[]int{0}, make([]int, 20), true},
	}
}

// MaxRows values in lists below others are no error, more are, though the array has fewer, and few rows are taken.
func TestWithin(t *testing.T) {
	for _, nest := range nests() {
		x := nest.moved(typeOf(list(-1), leaf(1, 0)))
		for _, c := range parts() {
			var vs []string
			for _, v := range truthLists(c.counts) {
				vs = append(vs, nest.from+v+nest.to)
			}
			p := built(t, x, vs)
			if _, e := build.Build(x, 0, chosen(p.vs, c.rows)); (e == api.OK) != c.ok {
				t.Fatalf("%v of %v within %v: %d", c.rows, c.counts, x, e)
			}
			if c.ok {
				holdAt(t, x, 0, p, c.rows...)
			} else {
				refuseAt(t, x, 0, p.a, api.ErrTakeFull, c.rows...)
			}
		}
	}
	// The lists below lists count, the empty ones with them.
	two := typeOf(list(-1), list(0), leaf(1, 1))
	for _, v := range []string{"[]", "[t]", "[f]"} {
		p := built(t, two, []string{listed(times(32, v)), listed(times(31, v)), listed([]string{v}), "[]"})
		holdAt(t, two, 0, p, 0, 0)
		holdAt(t, two, 0, p, 0, 3, 1, 2)
		holdAt(t, two, 0, p, slices.Repeat([]int{2}, 64)...)
		refuseAt(t, two, 0, p.a, api.ErrTakeFull, 0, 2, 0)
		refuseAt(t, two, 0, p.a, api.ErrTakeFull, 1, 1, 1)
	}
}

// Of values within others those count that a row has which is taken, as often as it is, whatever the layout, and no others.
func TestWithinLayouts(t *testing.T) {
	x := typeOf(null(list(-1)), null(leaf(0, 0)))
	sevens := numbers(0, slices.Repeat([]int{7}, api.MaxRows)...)
	kids := []api.Array{sevens, dict(0, sevens, make([]int, api.MaxRows)...), run(0, api.MaxRows, numbers(0, 7), api.MaxRows)}
	for _, kid := range kids {
		full := pileOf(lists(0, kid, 0, 40, 64), listed(times(40, "i7;")), listed(times(24, "i7;")))
		holdAt(t, x, 0, full, 1, 0)
		holdAt(t, x, 0, full, 1, 1)
		refuseAt(t, x, 0, full.a, api.ErrTakeFull, 0, 1, 1)
		refuseAt(t, x, 0, full.a, api.ErrTakeFull, 0, 0)
		few := pileOf(lists(1, kid, 0, 62, 64), "[i7;i7;]")
		holdAt(t, x, 0, few, make([]int, 32)...)
		refuseAt(t, x, 0, few.a, api.ErrTakeFull, make([]int, 33)...)
		nothing := pileOf(lacking(lists(0, kid, 0, 63, 64), "\x02"), "n", "[i7;]")
		holdAt(t, x, 0, nothing, make([]int, 64)...)
		holdAt(t, x, 0, nothing, 0, 1, 0, 1)
		rows := moved(x, null(row(-1)))
		lacks := pileOf(lacking(structs(0, 2, lists(0, kid, 0, 1, 64)), "\x01"), "{[i7;]}", "n")
		holdAt(t, rows, 0, lacks, slices.Repeat([]int{0, 1}, 32)...)
		all := lacking(lacks.a, "")
		refuseAt(t, rows, 0, all, api.ErrTakeFull, 0, 1, 0)
		holdAt(t, rows, 0, pileOf(all, "{[i7;]}", "{"+listed(times(63, "i7;"))+"}"), 1, 0)
	}
}
