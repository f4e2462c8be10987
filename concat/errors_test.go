package concat

import (
	"slices"
	"strings"
	"testing"

	"quiver/api"
	"quiver/array"
	"quiver/build"
	"quiver/types"
)

// refuseAt holds that an error is told, and nothing beside it.
func refuseAt(t *testing.T, x api.Type, at int, a api.Array, b api.Array, want api.Errno) {
	t.Helper()
	if got, e := Concat(x, at, a, b); !same(got, api.Array{}) || e != want {
		t.Errorf("P12.1: at node %d of %v: %s and %s: %s, %d; want %d", at, x, told(a), told(b), told(got), e, want)
	}
}

// small is a value of a node, none within it nothing; a list of one.
func small(x api.Type, at int) string {
	var in []string
	kids, _ := types.Kids(x, at)
	for _, kid := range kids {
		in = append(in, small(x, kid))
	}
	switch x.Nodes[at].Kind {
	case api.KindInt:
		return "i7;"
	case api.KindBool:
		return "t"
	case api.KindBytes:
		return "s1:a"
	case api.KindList:
		return listed(in)
	}
	return "{" + strings.Join(in, "") + "}"
}

// goods are arrays of a node that may be, the last one of as many rows as can be; where no array can be, some that might be one's.
func goods(x api.Type, at int) []api.Array {
	if !types.May(x) || at < 0 || at >= len(x.Nodes) {
		return []api.Array{{}, numbers(0, 1, 2, 3), texts(0, "a", "b", "c"), lists(0, numbers(0, 1, 2, 3), 0, 1, 2, 3), structs(0, 3, numbers(0, 1, 2, 3), numbers(0, 1, 2, 3))}
	}
	var all []api.Array
	for _, n := range []int{0, 1, 3, api.MaxRows} {
		a, _ := build.Build(x, at, times(n, small(x, at)))
		all = append(all, a)
	}
	return all
}

// refuseForm holds that an array may not be, as the first one and as the second one, beside those that may be and those that may not; also where both together would be too many (R6).
func refuseForm(t *testing.T, x api.Type, at int, a api.Array) {
	t.Helper()
	for _, other := range append(goods(x, at), a, api.Array{Layout: 7}, api.Array{Offset: 1, Length: api.MaxRows}) {
		refuseAt(t, x, at, a, other, api.ErrConcatForm)
		refuseAt(t, x, at, other, a, api.ErrConcatForm)
	}
}

// refuse holds it of node 0, and of that node below a list and below a struct, though no row of theirs reaches it.
func refuse(t *testing.T, x api.Type, a api.Array) {
	t.Helper()
	refuseForm(t, x, 0, a)
	some, pair := moved(x, list(-1)), moved(x, row(-1), leaf(api.KindInt, 0))
	refuseForm(t, some, 1, a)
	refuseForm(t, some, 0, lists(0, a, 0, 0, 0, 0))
	refuseForm(t, some, 0, lists(0, a, 0))
	refuseForm(t, some, 0, lists(0, a, make([]int, api.MaxRows+1)...))
	refuseForm(t, pair, 2, a)
	refuseForm(t, pair, 0, structs(0, 0, numbers(0), a))
	refuseForm(t, pair, 0, structs(0, 3, numbers(0, 1, 2, 3), a))
	deep := moved(some, row(-1), leaf(api.KindBool, 0))
	refuseForm(t, deep, 0, structs(0, 0, truths(0, 0, ""), lists(0, a, 0)))
	refuseForm(t, moved(deep, list(-1)), 0, lists(0, structs(0, 0, truths(0, 0, ""), lists(0, a, 0)), 0, 0, 0, 0))
}

func TestNoType(t *testing.T) {
	nine := []api.Node{row(-1)}
	for range 8 {
		nine = append(nine, leaf(0, 0))
	}
	for _, x := range []api.Type{
		{}, {Nodes: []api.Node{}}, typeOf(nine...),
		typeOf(leaf(0, 0)), typeOf(leaf(0, -2)), typeOf(leaf(5, -1)), typeOf(leaf(-1, -1)), typeOf(leaf(least, -1)), typeOf(null(leaf(greatest, -1))),
		typeOf(list(-1)), typeOf(row(-1)), typeOf(null(list(-1)), leaf(0, 0), leaf(0, 0)), typeOf(leaf(0, -1), leaf(0, 0)),
		typeOf(row(-1), leaf(0, 0), leaf(0, 1)), typeOf(row(-1), leaf(0, 0), leaf(0, 2)), typeOf(row(-1), leaf(0, 0), leaf(0, -1)), typeOf(row(-1), leaf(0, 0), leaf(0, greatest)),
		typeOf(row(-1), leaf(0, 0), leaf(7, 0)), typeOf(row(-1), leaf(0, 0), list(0)),
		typeOf(list(-1), list(0), list(1), list(2), list(3), leaf(0, 4)),
	} {
		for _, at := range []int{least, -1, 0, 1, 2, 3, len(x.Nodes) - 1, len(x.Nodes), greatest} {
			for _, a := range goods(x, at) {
				refuseForm(t, x, at, a)
			}
		}
	}
}

func TestNoNode(t *testing.T) {
	wide := typeOf(row(-1), leaf(0, 0), list(0), leaf(0, 2))
	for _, x := range []api.Type{ints, mayInts, wide} {
		n := len(x.Nodes)
		for _, at := range []int{least, least + 1, -1 << 32, -n, -3, -2, -1, n, n + 1, 2 * n, api.MaxNodes, 256, 1 << 31, 1 << 32, 1<<32 + 1, greatest - 1, greatest} {
			if at < 0 || at >= n {
				for _, a := range goods(x, at) {
					refuseForm(t, x, at, a)
				}
			}
		}
	}
}

// Arrays of one node may not be another one's.
func TestOtherNodes(t *testing.T) {
	x := typeOf(row(-1), list(0), leaf(0, 0), null(row(0)), leaf(2, 1), leaf(1, 3), null(leaf(0, 3)))
	for at := range x.Nodes {
		for other := range x.Nodes {
			for _, a := range goods(x, other) {
				if !array.May(x, at, a) {
					refuseForm(t, x, at, a)
				}
			}
		}
	}
	refuseForm(t, x, 2, lacking(numbers(0, 1, 2, 3), "\x07"))
}

// As they are, of each kind; also where the fault stands in what no row needs.
func TestNoArray(t *testing.T) {
	three, words := numbers(0, 1, 2, 3), texts(0, "a", "b", "c")
	for _, a := range []api.Array{
		{Offset: -1, Length: 3, Data: three.Data}, {Length: -1}, {Length: least}, {Length: greatest}, {Offset: least, Length: least}, {Offset: greatest, Length: greatest},
		{Offset: 1, Length: 3, Data: three.Data}, {Length: 4, Data: three.Data}, {Length: 3, Data: three.Data[1:]}, {Length: 3}, {Length: 65, Data: strings.Repeat("\x00", 65*8)}, {Offset: 1, Length: 64, Data: strings.Repeat("\x00", 65*8)},
		{Length: 3, Data: strings.Repeat("\x00", api.MaxBuffer+1)}, lacking(three, "\x07"), {Length: 3, Data: three.Data, Ends: fours(0)}, {Length: 3, Data: three.Data, Kids: []api.Array{{}}}, {Layout: 3, Length: 3, Data: three.Data}, {Layout: -1, Length: 3, Data: three.Data}, words,
	} {
		refuse(t, ints, a)
	}
	for _, a := range []api.Array{lacking(three, strings.Repeat("\xff", api.MaxBuffer+1)), lacking(numbers(6, 1, 2, 3, 4, 5, 6, 7, 8, 9), "\xff")} {
		refuse(t, mayInts, a)
	}
	for _, a := range []api.Array{
		with(words, func(a *api.Array) { a.Ends = a.Ends[:15] }), with(words, func(a *api.Array) { a.Data = "ab" }), {Length: 3, Ends: fours(0, 2, 1, 3), Data: "abc"}, {Offset: 2, Length: 1, Ends: fours(2, 1, 1, 3), Data: "abc"},
		{Length: 3, Ends: fours(0, 17, 17, 17), Data: strings.Repeat("a", 17)}, {Length: 3, Ends: fours(0, 1, 1<<31, 3), Data: "abc"}, {Length: 0, Ends: "\x00\x00\x00"}, {}, three,
	} {
		refuse(t, bytes, a)
	}
	refuse(t, bools, truths(3, 6, "\xff"))
	some := typeOf(list(-1), leaf(0, 0))
	for _, a := range []api.Array{lists(0, three, 0, 1, 4, 4), lists(0, three, 0, 2, 1, 3), with(lists(0, three, 0, 1, 2, 3), func(a *api.Array) { a.Kids = nil }), with(lists(0, three, 0, 1, 2, 3), func(a *api.Array) { a.Kids = append(a.Kids, three) }), with(lists(0, three, 0, 1, 2, 3), func(a *api.Array) { a.Data = "\x00" }), {}, three, words} {
		refuse(t, some, a)
	}
	pair := typeOf(row(-1), leaf(0, 0), leaf(0, 0))
	for _, a := range []api.Array{structs(0, 3, three), structs(0, 3, three, three, three), structs(1, 3, three, three), structs(0, 3, three, numbers(1, 1, 2, 3)), structs(0, 3, three, words), with(structs(0, 3, three, three), func(a *api.Array) { a.Ends = fours(0) }), {}} {
		refuse(t, pair, a)
	}
}

func TestNoDictNoRun(t *testing.T) {
	three, may := numbers(0, 1, 2, 3), lacking(numbers(0, 1, 2, 3), "\x07")
	for _, a := range []api.Array{
		dict(0, three, 0, 1, 2, 3), dict(0, three, 0, 1<<31, 1), dict(0, may, 0, 1, 2), dict(0, dict(0, three, 0, 1, 2), 0, 1, 2), dict(0, run(0, 3, three, 1, 2, 3), 0, 1, 2), dict(0, texts(0, "a", "b", "c"), 0, 1, 2),
		with(dict(0, three, 0, 1, 2), func(a *api.Array) { a.Kids = nil }), with(dict(0, three, 0, 1, 2), func(a *api.Array) { a.Data = a.Data[1:] }), with(dict(0, three, 0, 1, 2), func(a *api.Array) { a.Ends = fours(0) }), lacking(dict(1, three, 0, 1, 2, 0, 1, 2, 0, 1, 2), "\xff"),
		run(0, 3, three, 1, 2), run(0, 3, three, 1, 2, 3, 4), run(0, 4, three, 1, 2, 3), run(1, 3, three, 1, 2, 3), run(0, 3, three, 0, 2, 3), run(0, 3, three, 1, 1, 3), run(0, 3, three, 2, 1, 3), run(0, 3, three, 1, 2, 1<<31), run(0, 1, numbers(0)),
		lacking(run(0, 3, three, 1, 2, 3), "\x07"), run(0, 3, run(0, 3, three, 1, 2, 3), 1, 2, 3), run(0, 3, dict(0, three, 0, 1, 2), 1, 2, 3), run(0, 3, texts(0, "a", "b", "c"), 1, 2, 3), with(run(0, 3, three, 1, 2, 3), func(a *api.Array) { a.Kids = append(a.Kids, three) }),
	} {
		refuse(t, mayInts, a)
	}
	some, pair := typeOf(list(-1), leaf(0, 0)), typeOf(row(-1), leaf(0, 0))
	many, rows := lists(0, three, 0, 1, 2, 3), structs(0, 3, three)
	refuse(t, some, dict(0, many, 0, 1, 2))
	refuse(t, some, run(0, 3, many, 1, 2, 3))
	refuse(t, pair, dict(0, rows, 0, 1, 2))
	refuse(t, pair, run(0, 3, rows, 1, 2, 3))
}

// R1: kids that stand within themselves are refused, where the type has an end.
func TestKidsWithinThemselves(t *testing.T) {
	for _, x := range []api.Type{ints, typeOf(list(-1), list(0), leaf(1, 1)), typeOf(row(-1), row(0), leaf(2, 1))} {
		for layout := range 4 {
			kids := make([]api.Array, 1)
			kids[0] = api.Array{Layout: layout, Length: 1, Kids: kids}
			if x.Nodes[0].Kind == api.KindList {
				kids[0].Ends = fours(0, 1)
			}
			for at := range x.Nodes {
				for _, pair := range [][2]api.Array{{kids[0], goods(x, at)[1]}, {goods(x, at)[1], kids[0]}, {kids[0], kids[0]}} {
					// No fault is told by the array, which has no end.
					if got, e := Concat(x, at, pair[0], pair[1]); !same(got, api.Array{}) || e != api.ErrConcatForm {
						t.Errorf("P12.1: at node %d of %v: %d; want ErrConcatForm", at, x, e)
					}
				}
			}
		}
	}
}

// R6: what may not be is told first, though layer 10 would refuse the rows of both as too many.
func TestBothErrors(t *testing.T) {
	full := numbers(0, make([]int, api.MaxRows)...)
	short := with(full, func(a *api.Array) { a.Data = a.Data[1:] })
	over := with(full, func(a *api.Array) { a.Length, a.Data = api.MaxRows+1, a.Data+eights(0) })
	refuseAt(t, ints, 0, full, full, api.ErrConcatFull)
	for _, bad := range []api.Array{short, over, lacking(full, "\xff\xff\xff\xff\xff\xff\xff\xff")} {
		refuse(t, ints, bad)
	}
	some := typeOf(list(-1), leaf(0, 0))
	many := lists(0, full, 0, api.MaxRows)
	refuseAt(t, some, 0, many, many, api.ErrConcatFull)
	for _, bad := range []api.Array{lists(0, short, 0, api.MaxRows), lists(0, over, 0, api.MaxRows), lists(0, full, 0, api.MaxRows+1), lists(0, full, append(make([]int, api.MaxRows), api.MaxRows+1)...)} {
		refuseAt(t, some, 0, many, bad, api.ErrConcatForm)
		refuseAt(t, some, 0, bad, many, api.ErrConcatForm)
		refuseAt(t, some, 0, bad, bad, api.ErrConcatForm)
		refuse(t, some, bad)
	}
	for _, at := range []int{-1, 1} {
		refuseAt(t, ints, at, full, full, api.ErrConcatForm)
	}
}

// count is so many rows of an array that has them ahead of others, behind others, and between others.
func count(n int, of func(offset int, length int) api.Array, v string) []pile {
	vs := times(n, v)
	return []pile{pileOf(of(0, n), vs...), pileOf(of(api.MaxRows-n, n), vs...), pileOf(of((api.MaxRows-n)/2, n), vs...)}
}

// fulls are arrays of each kind, in each layout, of any rows of MaxRows.
func fulls() []struct {
	x  api.Type
	of func(offset int, length int) api.Array
	v  string
} {
	all := func(a api.Array) func(offset int, length int) api.Array {
		return func(offset int, length int) api.Array {
			return with(a, func(a *api.Array) { a.Offset, a.Length = offset, length })
		}
	}
	sevens := numbers(0, slices.Repeat([]int{7}, api.MaxRows)...)
	none := strings.Repeat("\x00", api.MaxRows/8)
	return []struct {
		x  api.Type
		of func(offset int, length int) api.Array
		v  string
	}{
		{ints, all(sevens), "i7;"}, {mayInts, all(lacking(sevens, none)), "n"},
		{ints, all(dict(0, sevens, make([]int, api.MaxRows)...)), "i7;"}, {mayInts, all(lacking(dict(0, api.Array{}, make([]int, api.MaxRows)...), none)), "n"},
		{ints, all(run(0, api.MaxRows, numbers(0, 7), api.MaxRows)), "i7;"}, {mayInts, all(run(0, api.MaxRows, lacking(numbers(0, 7), "\x00"), api.Most)), "n"},
		{bools, all(truths(0, api.MaxRows, none)), "f"}, {bools, all(run(0, 0, truths(0, 1, "\x01"), api.MaxRows)), "t"},
		{bytes, all(texts(0, times(api.MaxRows, "0123456789abcdef")...)), "s16:0123456789abcdef"}, {bytes, all(dict(0, texts(0, ""), make([]int, api.MaxRows)...)), "s0:"},
		{typeOf(list(-1), leaf(0, 0)), all(lists(0, sevens, make([]int, api.MaxRows+1)...)), "[]"}, {typeOf(null(list(-1)), leaf(0, 0)), all(lacking(lists(0, sevens, append(make([]int, api.MaxRows), api.MaxRows)...), none)), "n"},
		{typeOf(row(-1), leaf(0, 0)), all(structs(0, api.MaxRows, sevens)), "{i7;}"}, {typeOf(null(row(-1)), leaf(0, 0)), all(lacking(structs(0, api.MaxRows, sevens), none)), "n"},
	}
}

// MaxRows rows at the top are no error, one more is, however both have them; and those that no row of either is do not count.
func TestRows(t *testing.T) {
	for _, c := range fulls() {
		for n := range api.MaxRows + 1 {
			for _, p := range count(n, c.of, c.v) {
				holdAt(t, c.x, 0, p, count(api.MaxRows-n, c.of, c.v)[1])
				if n > 0 {
					refuseAt(t, c.x, 0, p.a, c.of(0, api.MaxRows-n+1), api.ErrConcatFull)
					refuseAt(t, c.x, 0, c.of(n-1, api.MaxRows-n+1), p.a, api.ErrConcatFull)
				}
			}
		}
		for _, n := range []int{1, 2, 63, 64} {
			refuseAt(t, c.x, 0, c.of(0, api.MaxRows), c.of(0, n), api.ErrConcatFull)
			refuseAt(t, c.x, 0, c.of(0, n), c.of(0, api.MaxRows), api.ErrConcatFull)
		}
		holdAt(t, c.x, 0, pileOf(c.of(0, 63), times(63, c.v)...), pileOf(c.of(63, 1), c.v))
	}
}

// parted are how many truths each list of a first array and of a second one has: so many together, from 64 to 90, and neither too many.
func parted(count int) [][2][]int {
	return [][2][]int{
		{{64}, {count - 64}}, {{count - 64}, {64}}, {{63}, {count - 63}}, {{count - 63}, {63}}, {{32}, {count - 32}},
		{{0, 20, 0, 12}, {count - 40, 0, 8}}, {{count - 63, 0}, {0, 0, 63}}, {slices.Repeat([]int{1}, 31), {count - 31}}, {{count - 31}, slices.Repeat([]int{1}, 31)},
	}
}

// truthLists gives lists of so many truths each.
func truthLists(counts []int) []string {
	var vs []string
	for _, n := range counts {
		vs = append(vs, listed(times(n, "t")))
	}
	return vs
}

// nests are ways in which a type stands below others, and its values within others.
func nests() []struct {
	moved  func(x api.Type) api.Type
	within func(vs []string) []string
} {
	below := func(ahead ...api.Node) func(x api.Type) api.Type {
		return func(x api.Type) api.Type { return moved(x, ahead...) }
	}
	each := func(from string, to string, behind ...string) func(vs []string) []string {
		return func(vs []string) []string {
			var out []string
			for _, v := range vs {
				out = append(out, from+v+to)
			}
			return append(out, behind...)
		}
	}
	whole := func(from string, to string) func(vs []string) []string {
		return func(vs []string) []string { return []string{from + strings.Join(vs, "") + to} }
	}
	return []struct {
		moved  func(x api.Type) api.Type
		within func(vs []string) []string
	}{
		{func(x api.Type) api.Type { return x }, each("", "")},
		{below(list(-1)), each("[", "]")},
		{below(list(-1)), whole("[", "]")},
		{below(null(list(-1))), each("[", "]", "n", "[]")},
		{below(row(-1)), each("{", "}")},
		{below(row(-1), leaf(0, 0)), each("{i5;", "}")},
		{below(null(row(-1)), null(leaf(2, 0))), each("{n", "}", "n")},
		{func(x api.Type) api.Type { return moved(moved(x, list(-1)), list(-1)) }, whole("[[", "]]")},
		{func(x api.Type) api.Type { return moved(moved(x, list(-1)), row(-1)) }, each("{[", "]}")},
		{func(x api.Type) api.Type { return moved(moved(x, null(row(-1))), list(-1)) }, each("[{", "}n]")},
		// A kid that has room ahead of this one, and behind it.
		{func(api.Type) api.Type { return typeOf(row(-1), list(0), leaf(0, 1), list(0), leaf(1, 3)) }, each("{[i1;]", "}")},
		{func(api.Type) api.Type { return typeOf(row(-1), list(0), leaf(1, 1), list(0), leaf(0, 3)) }, each("{", "[i1;]}")},
	}
}

// built is the pile that layer 10 builds of values of a type's first node.
func built(t *testing.T, x api.Type, vs []string) pile {
	t.Helper()
	a, e := build.Build(x, 0, vs)
	if e != api.OK {
		t.Fatalf("of %v: %q: %d", x, vs, e)
	}
	return pileOf(a, vs...)
}

// MaxRows values in lists below others are no error, more are, though each of both has fewer of them, and few rows.
func TestWithin(t *testing.T) {
	for _, nest := range nests() {
		x := nest.moved(typeOf(list(-1), leaf(1, 0)))
		for _, count := range []int{64, 65, 66, 90} {
			for _, counts := range parted(count) {
				p, q := built(t, x, nest.within(truthLists(counts[0]))), built(t, x, nest.within(truthLists(counts[1])))
				if count == api.MaxRows {
					holdAt(t, x, 0, p, q)
				} else {
					refuseAt(t, x, 0, p.a, q.a, api.ErrConcatFull)
				}
			}
		}
	}
	// The lists below lists count, the empty ones with them.
	two := typeOf(list(-1), list(0), leaf(1, 1))
	for _, c := range []struct {
		few, many int
		v         string
	}{{32, 33, "[]"}, {1, 64, "[]"}, {31, 34, "[t]"}} {
		one, other := built(t, two, []string{listed(times(c.few, c.v))}), built(t, two, []string{listed(times(c.many, c.v))})
		refuseAt(t, two, 0, one.a, other.a, api.ErrConcatFull)
		refuseAt(t, two, 0, other.a, one.a, api.ErrConcatFull)
		other = built(t, two, []string{"[]", listed(times(c.many-1, c.v))})
		holdAt(t, two, 0, one, other)
		holdAt(t, two, 0, other, one)
	}
	// The first two of three are well, and so are the last two, but not all of them.
	some := typeOf(list(-1), leaf(1, 0))
	p, q := built(t, some, truthLists([]int{22})), built(t, some, truthLists([]int{21}))
	both, _ := Concat(some, 0, p.a, q.a)
	refuseAt(t, some, 0, both, p.a, api.ErrConcatFull)
	refuseAt(t, some, 0, p.a, both, api.ErrConcatFull)
	holdAt(t, some, 0, pileOf(both, slices.Concat(p.vs, q.vs)...), q)
}

// Of values within others those count that a row of either has, whatever the layout, and no others.
func TestWithinLayouts(t *testing.T) {
	x := typeOf(null(list(-1)), null(leaf(0, 0)))
	sevens := numbers(0, slices.Repeat([]int{7}, api.MaxRows)...)
	kids := []api.Array{sevens, dict(0, sevens, make([]int, api.MaxRows)...), run(0, api.MaxRows, numbers(0, 7), api.MaxRows)}
	part := func(kid api.Array, from int, count int) pile {
		return pileOf(lists(0, kid, from, from+count), listed(times(count, "i7;")))
	}
	for _, kid := range kids {
		for _, other := range kids {
			holdAt(t, x, 0, part(kid, 0, 40), part(other, 40, 24))
			holdAt(t, x, 0, part(kid, 64, 0), part(other, 0, 64))
			refuseAt(t, x, 0, part(kid, 0, 40).a, part(other, 39, 25).a, api.ErrConcatFull)
			refuseAt(t, x, 0, part(kid, 63, 1).a, part(other, 0, 64).a, api.ErrConcatFull)
		}
		few := pileOf(lists(1, kid, 0, 62, 64), "[i7;i7;]")
		holdAt(t, x, 0, few, few)
		nothing := pileOf(lacking(lists(0, kid, 0, 64), "\x00"), "n")
		holdAt(t, x, 0, nothing, nothing)
		holdAt(t, x, 0, nothing, part(kid, 0, 64))
		rows := moved(x, null(row(-1)))
		lacks := pileOf(lacking(structs(0, 2, lists(0, kid, 0, 1, 64)), "\x01"), "{[i7;]}", "n")
		holdAt(t, rows, 0, lacks, lacks)
		holdAt(t, rows, 0, pileOf(lacking(structs(0, 1, lists(0, kid, 0, 1, 64)), ""), "{[i7;]}"), lacks)
		refuseAt(t, rows, 0, structs(0, 2, lists(0, kid, 0, 1, 64)), lacks.a, api.ErrConcatFull)
	}
}
