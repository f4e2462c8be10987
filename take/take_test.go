package take

import (
	"encoding/binary"
	"fmt"
	"math"
	"slices"
	"strings"
	"testing"

	"quiver/api"
	"quiver/array"
	"quiver/build"
	"quiver/read"
)

const (
	least    = math.MinInt
	greatest = math.MaxInt
)

func typeOf(nodes ...api.Node) api.Type { return api.Type{Nodes: nodes} }

func leaf(kind int, parent int) api.Node { return api.Node{Kind: kind, Parent: parent} }

func list(parent int) api.Node { return leaf(api.KindList, parent) }

func row(parent int) api.Node { return leaf(api.KindStruct, parent) }

func null(n api.Node) api.Node {
	n.Null = true
	return n
}

// The types of the leaves, and of those that may be nothing.
var (
	ints, bools, bytes          = typeOf(leaf(api.KindInt, -1)), typeOf(leaf(api.KindBool, -1)), typeOf(leaf(api.KindBytes, -1))
	mayInts, mayBools, mayBytes = typeOf(null(leaf(api.KindInt, -1))), typeOf(null(leaf(api.KindBool, -1))), typeOf(null(leaf(api.KindBytes, -1)))
)

// moved is a type whose first node stands below the first one of others, all of those ahead of it.
func moved(x api.Type, ahead ...api.Node) api.Type {
	nodes := slices.Clone(ahead)
	for i, n := range x.Nodes {
		n.Parent += len(ahead)
		if i == 0 {
			n.Parent = 0
		}
		nodes = append(nodes, n)
	}
	return typeOf(nodes...)
}

// fours gives numbers, four bytes each.
func fours(xs ...int) string {
	var out []byte
	for _, x := range xs {
		out = binary.LittleEndian.AppendUint32(out, uint32(x))
	}
	return string(out)
}

// eights gives numbers, eight bytes each.
func eights(xs ...int) string {
	var out []byte
	for _, x := range xs {
		out = binary.LittleEndian.AppendUint64(out, uint64(x))
	}
	return string(out)
}

// numbers lays whole numbers down, the first ones of them ahead of Offset.
func numbers(offset int, xs ...int) api.Array {
	return api.Array{Offset: offset, Length: len(xs) - offset, Data: eights(xs...)}
}

// truths lays truths down by the bytes that they are in.
func truths(offset int, length int, data string) api.Array {
	return api.Array{Offset: offset, Length: length, Data: data}
}

// texts lays bytes down, the first ones of them ahead of Offset.
func texts(offset int, ss ...string) api.Array {
	ends := []int{0}
	for _, s := range ss {
		ends = append(ends, ends[len(ends)-1]+len(s))
	}
	return api.Array{Offset: offset, Length: len(ss) - offset, Ends: fours(ends...), Data: strings.Join(ss, "")}
}

// lists lays lists down by their ends, the first ones of them ahead of Offset.
func lists(offset int, kid api.Array, ends ...int) api.Array {
	return api.Array{Offset: offset, Length: len(ends) - 1 - offset, Ends: fours(ends...), Kids: []api.Array{kid}}
}

// structs lays structs down.
func structs(offset int, length int, kids ...api.Array) api.Array {
	return api.Array{Offset: offset, Length: length, Kids: kids}
}

// dict lays rows down by a dictionary, the first ones of them ahead of Offset.
func dict(offset int, kid api.Array, numbers ...int) api.Array {
	return api.Array{Layout: api.LayoutDict, Offset: offset, Length: len(numbers) - offset, Data: fours(numbers...), Kids: []api.Array{kid}}
}

// run lays rows down by where runs end.
func run(offset int, length int, kid api.Array, ends ...int) api.Array {
	return api.Array{Layout: api.LayoutRun, Offset: offset, Length: length, Data: fours(ends...), Kids: []api.Array{kid}}
}

// with gives an array with something turned; what lies within the one that was given stays.
func with(a api.Array, turn func(a *api.Array)) api.Array {
	a.Kids = slices.Clone(a.Kids)
	turn(&a)
	return a
}

// lacking gives an array with bits of what is there.
func lacking(a api.Array, valid string) api.Array {
	a.Valid = valid
	return a
}

// more gives an array with more bytes behind those texts that it has.
func more(a api.Array) api.Array {
	for _, text := range []*string{&a.Valid, &a.Ends, &a.Data} {
		if *text != "" {
			*text += "\xff\xfe\xfd\xfc\xfb"
		}
	}
	return a
}

// same tells whether two arrays are one; no Kids and nil are one.
func same(a api.Array, b api.Array) bool {
	return a.Layout == b.Layout && a.Offset == b.Offset && a.Length == b.Length && a.Valid == b.Valid && a.Ends == b.Ends && a.Data == b.Data && slices.EqualFunc(a.Kids, b.Kids, same)
}

// told tells an array, not too long.
func told(a api.Array) string {
	s := fmt.Sprintf("%#v", a)
	return s[:min(len(s), 400)]
}

// few tells numbers of rows, not too many.
func few(rows []int) string { return fmt.Sprint(len(rows), " rows ", rows[:min(len(rows), 70)]) }

// pile is an array together with what its rows are.
type pile struct {
	a  api.Array
	vs []string
}

func pileOf(a api.Array, vs ...string) pile { return pile{a, vs} }

// listed tells a list of values.
func listed(vs []string) string { return "[" + strings.Join(vs, "") + "]" }

// times gives one text so many times.
func times(count int, v string) []string { return slices.Repeat([]string{v}, count) }

// chosen are the values that rows are the numbers of.
func chosen(vs []string, rows []int) []string {
	var out []string
	for _, row := range rows {
		out = append(out, vs[row])
	}
	return out
}

// holdAt holds what is told of a pile's rows: each field of what layer 10 builds of them, that it may be, and that its rows are just those.
func holdAt(t *testing.T, x api.Type, at int, p pile, rows ...int) {
	t.Helper()
	if vs, e := read.Values(x, at, p.a); !slices.Equal(vs, p.vs) || e != api.OK {
		t.Errorf("at node %d of %v: %s is %q, %d; not %q", at, x, told(p.a), vs, e, p.vs)
	}
	vs := chosen(p.vs, rows)
	want, f := build.Build(x, at, vs)
	got, e := Take(x, at, p.a, rows)
	if !same(got, want) || e != api.OK || f != api.OK {
		t.Errorf("P13.1: %s at node %d of %v: %s: %s, %d; want %s, %d", few(rows), at, x, told(p.a), told(got), e, told(want), f)
	}
	if !array.May(x, at, got) {
		t.Errorf("P13.1: %s at node %d of %v: %s: what is told may not be: %s", few(rows), at, x, told(p.a), told(got))
	}
	if us, e := read.Values(x, at, got); !slices.Equal(us, vs) || e != api.OK {
		t.Errorf("T2: %s at node %d of %v: %s are read as %q, %d; want %q", few(rows), at, x, told(p.a), us, e, vs)
	}
}

// picks are ways to take some of length rows: none, each one, one twice, all, all turned round, all twice, only the first half, the same again and again between others.
func picks(length int) [][]int {
	all := [][]int{nil, {}}
	var up, twins, between []int
	for i := range length {
		up, twins, between = append(up, i), append(twins, i, i), append(between, i, length-1)
		all = append(all, []int{i}, []int{i, i}, []int{length - 1, i}, []int{i, 0, length / 2})
	}
	down := slices.Clone(up)
	slices.Reverse(down)
	return append(all, up, down, twins, between, up[:length/2], up[length/2:], slices.Concat(up, down), slices.Concat(down, down))
}

// holdEach holds it of a pile, whichever of its rows are taken.
func holdEach(t *testing.T, x api.Type, at int, p pile) {
	t.Helper()
	for _, rows := range picks(len(p.vs)) {
		holdAt(t, x, at, p, rows...)
	}
}

// inLists are a pile's rows in lists: all in one, with empty ones between, and some lists ahead of Offset.
func inLists(p pile) []pile {
	n := len(p.vs)
	first, last := listed(p.vs[:n/2]), listed(p.vs[n/2:])
	return []pile{
		pileOf(lists(0, p.a, 0, n), listed(p.vs)),
		pileOf(lists(0, p.a, 0, 0, n/2, n/2, n), "[]", first, "[]", last),
		pileOf(lists(2, p.a, 0, 0, n/2, n/2, n), "[]", last),
		pileOf(lists(0, p.a, 0)),
	}
}

// inStructs are a pile's rows in structs, each behind a number: all of them, and those behind the first one, where the kids have rows behind the structs' last one.
func inStructs(p pile) []pile {
	var xs []int
	var rows []string
	for i, v := range p.vs {
		xs, rows = append(xs, -i), append(rows, fmt.Sprintf("{i%d;%s}", -i, v))
	}
	n := len(rows)
	all := []pile{pileOf(structs(0, n, numbers(0, xs...), p.a), rows...)}
	if n > 1 {
		all = append(all, pileOf(structs(1, n-2, numbers(0, xs...), p.a), rows[1:n-1]...))
	}
	return all
}

// hold holds it of node 0, and of that node below a list and below a struct.
func hold(t *testing.T, x api.Type, p pile) {
	t.Helper()
	some, pair := moved(x, list(-1)), moved(x, row(-1), leaf(api.KindInt, 0))
	holdEach(t, x, 0, p)
	holdEach(t, some, 1, p)
	holdEach(t, pair, 2, p)
	for _, one := range inLists(p) {
		holdEach(t, some, 0, one)
	}
	for _, one := range inStructs(p) {
		holdEach(t, pair, 0, one)
	}
}

func TestTake(t *testing.T) {
	words := texts(0, "ab", "", "cde", "f")
	some, pair := typeOf(null(list(-1)), leaf(2, 0)), typeOf(null(row(-1)), null(leaf(1, 0)), leaf(2, 0))
	many := lacking(lists(1, words, 0, 1, 3, 4, 4), "\x1a")
	rows := lacking(structs(1, 3, truths(0, 4, "\x0d"), words), "\x0c")
	for _, c := range []struct {
		x    api.Type
		a    api.Array
		rows []int
		want api.Array
	}{
		{ints, numbers(0, 7, -8, 9), []int{2, 0}, api.Array{Length: 2, Data: "\x09\x00\x00\x00\x00\x00\x00\x00" + "\x07\x00\x00\x00\x00\x00\x00\x00"}},
		{ints, numbers(0, 7, -8, 9), []int{0, 2}, api.Array{Length: 2, Data: eights(7, 9)}},
		{ints, numbers(0, 7, -8, 9), []int{1, 1, 1, 0, 1}, api.Array{Length: 5, Data: eights(-8, -8, -8, 7, -8)}},
		{ints, more(numbers(2, 5, 6, least, greatest)), []int{1, 0}, api.Array{Length: 2, Data: eights(greatest, least)}},
		{ints, dict(1, numbers(1, 9, 7, 8), 0, 1, 0, 1), []int{2, 1, 1}, api.Array{Length: 3, Data: eights(8, 7, 7)}},
		{ints, run(1, 5, numbers(1, 9, 7, 8), 3, 6), []int{4, 1, 2, 0}, api.Array{Length: 4, Data: eights(8, 7, 8, 7)}},
		{mayInts, lacking(numbers(0, 7, -8, 9), "\x05"), []int{1, 2, 1}, api.Array{Length: 3, Valid: "\x02", Data: eights(0, 9, 0)}},
		{mayInts, lacking(numbers(0, 7, -8, 9), "\x05"), []int{2, 0}, api.Array{Length: 2, Data: eights(9, 7)}},
		{mayInts, lacking(dict(0, numbers(0, 7), 0, 5, 0), "\x05"), []int{1, 0}, api.Array{Length: 2, Valid: "\x02", Data: eights(0, 7)}},
		{mayInts, run(1, 4, lacking(numbers(1, 9, 7, 8), "\x05"), 3, 6), []int{3, 0, 1}, api.Array{Length: 3, Valid: "\x01", Data: eights(8, 0, 0)}},
		{bools, truths(7, 5, "\x80\x05"), []int{4, 3, 2, 1, 0, 2, 4, 3, 1}, api.Array{Length: 9, Data: "\x9a\x01"}},
		{mayBools, lacking(dict(0, truths(3, 2, "\x08"), 0, 1, 0), "\x06"), []int{2, 1, 0, 2}, api.Array{Length: 4, Valid: "\x0b", Data: "\x09"}},
		{mayBools, run(0, 8, lacking(truths(0, 2, "\x03"), "\x02"), 5, 9), []int{5, 4, 7}, api.Array{Length: 3, Valid: "\x05", Data: "\x05"}},
		{bytes, words, []int{3, 2, 1, 0}, api.Array{Length: 4, Ends: "\x00\x00\x00\x00" + "\x01\x00\x00\x00" + "\x04\x00\x00\x00" + "\x04\x00\x00\x00" + "\x06\x00\x00\x00", Data: "fcdeab"}},
		{bytes, dict(0, words, 3, 2, 0), []int{0, 2, 2}, api.Array{Length: 3, Ends: fours(0, 1, 3, 5), Data: "fabab"}},
		{bytes, run(2, 2, words, 1, 2, 3, 9), []int{1, 0}, api.Array{Length: 2, Ends: fours(0, 1, 4), Data: "fcde"}},
		{mayBytes, lacking(texts(0, "ab", "c"), "\x02"), []int{1, 0, 1}, api.Array{Length: 3, Valid: "\x05", Ends: fours(0, 1, 1, 2), Data: "cc"}},
		// What a list that is nothing spans is not told, nor is what no list spans that is taken.
		{some, many, []int{2, 1, 0}, api.Array{Length: 3, Valid: "\x05", Ends: fours(0, 0, 0, 2), Kids: []api.Array{{Length: 2, Ends: fours(0, 0, 3), Data: "cde"}}}},
		{some, many, []int{1, 1}, api.Array{Length: 2, Valid: "\x00", Ends: fours(0, 0, 0), Kids: []api.Array{{Ends: fours(0)}}}},
		{some, many, []int{0, 2, 0}, api.Array{Length: 3, Ends: fours(0, 2, 2, 4), Kids: []api.Array{{Length: 4, Ends: fours(0, 0, 3, 3, 6), Data: "cdecde"}}}},
		// What a struct that is nothing has within it is not told.
		{pair, rows, []int{2, 0, 1}, api.Array{Length: 3, Valid: "\x05", Kids: []api.Array{{Length: 3, Valid: "\x05", Data: "\x05"}, {Length: 3, Ends: fours(0, 1, 1, 4), Data: "fcde"}}}},
		{pair, rows, []int{1, 2}, api.Array{Length: 2, Kids: []api.Array{{Length: 2, Data: "\x03"}, {Length: 2, Ends: fours(0, 3, 4), Data: "cdef"}}}},
	} {
		got, e := Take(c.x, 0, c.a, c.rows)
		if !same(got, c.want) || e != api.OK {
			t.Errorf("P13.1: %v of %v: %s: %s, %d; want %s", c.rows, c.x, told(c.a), told(got), e, told(c.want))
		}
	}
}

// onces is an array of each kind that is neither list nor struct: four rows, some ahead of them.
func onces() []struct {
	must, may api.Type
	all       []pile
} {
	return []struct {
		must, may api.Type
		all       []pile
	}{
		{ints, mayInts, []pile{pileOf(numbers(0, 7, -8, least, greatest), "i7;", "i-8;", "i-9223372036854775808;", "i9223372036854775807;"), pileOf(numbers(2, 50, 60, 7, -8, 0, 1), "i7;", "i-8;", "i0;", "i1;")}},
		{bools, mayBools, []pile{pileOf(truths(0, 4, "\x06"), "f", "t", "t", "f"), pileOf(truths(3, 4, "\x2f"), "t", "f", "t", "f")}},
		{bytes, mayBytes, []pile{pileOf(texts(0, "", "a", "0123456789abcdef", ":;"), "s0:", "s1:a", "s16:0123456789abcdef", "s2::;"), pileOf(texts(1, "xx", "[", "", "n", "abc"), "s1:[", "s0:", "s1:n", "s3:abc")}},
	}
}

// layouts are arrays in each layout that have or stand on one of four rows, of which none is nothing.
func layouts(p pile) []pile {
	a, vs := p.a, p.vs
	return []pile{
		p,
		pileOf(with(more(a), func(a *api.Array) { a.Offset, a.Length = a.Offset+1, 2 }), vs[1], vs[2]),
		pileOf(with(a, func(a *api.Array) { a.Length = 0 })),
		pileOf(dict(0, a, 3, 3, 0, 2, 1), vs[3], vs[3], vs[0], vs[2], vs[1]),
		pileOf(more(dict(2, a, 9, 1<<31, 3, 1, 1)), vs[3], vs[1], vs[1]),
		pileOf(dict(1, a, 9)),
		pileOf(run(0, 6, a, 2, 3, 5, 6), vs[0], vs[0], vs[1], vs[2], vs[2], vs[3]),
		pileOf(run(1, 4, a, 2, 3, 5, api.Most), vs[0], vs[1], vs[2], vs[2]),
		pileOf(run(3, 0, a, 1, 2, 3, 4)),
	}
}

// gaps are such arrays of which some rows are nothing, or might be.
func gaps(p pile) []pile {
	a, vs := p.a, p.vs
	bits := string([]byte{0x0b << a.Offset})
	return []pile{
		pileOf(lacking(a, bits), vs[0], vs[1], "n", vs[3]),
		pileOf(lacking(a, "\x00"), "n", "n", "n", "n"),
		pileOf(lacking(a, "\xff\x00"), vs...),
		pileOf(lacking(dict(1, a, 9, 3, 9, 1, 0), "\x1a"), vs[3], "n", vs[1], vs[0]),
		pileOf(run(1, 6, lacking(a, bits), 2, 3, 6, 8), vs[0], vs[1], "n", "n", "n", vs[3]),
	}
}

// Of each layout, each row alone, twice, and among others.
func TestLayouts(t *testing.T) {
	for _, c := range onces() {
		for _, once := range c.all {
			for _, p := range layouts(once) {
				hold(t, c.must, p)
				hold(t, c.may, p)
			}
			for _, p := range gaps(once) {
				hold(t, c.may, p)
			}
		}
	}
}

// nested are types of lists and structs, with arrays of their first node.
func nested() []struct {
	x   api.Type
	all []pile
} {
	rows := typeOf(row(-1), null(row(0)), leaf(0, 1), list(0), leaf(0, 3), null(leaf(1, 0)))
	inner := lacking(structs(2, 4, dict(1, numbers(1, 9, 4, 5), 0, 0, 1, 0, 1, 0, 1)), "\x2c")
	many := lists(1, run(1, 6, numbers(0, 7, 8), 4, 7), 0, 1, 2, 2, 4, 6)
	ons := lacking(truths(3, 5, "\x5a"), "\xdf")
	four := lists(1, lists(1, lists(1, texts(1, "x", "a", "b", "c"), 0, 0, 2, 3), 0, 0, 1, 2), 0, 0, 2)
	within := lists(0, structs(0, 3, lists(0, structs(0, 3, texts(1, "x", "a", "b", "c")), 0, 1, 2, 3)), 0, 1, 1, 3)
	may := typeOf(null(list(-1)), null(row(0)), null(list(1)), null(leaf(1, 2)))
	lacks := lists(1, lacking(structs(0, 4, lacking(lists(0, lacking(truths(0, 5, "\x15"), "\x1b"), 0, 1, 3, 4, 5), "\x0b")), "\x0e"), 0, 0, 2, 3, 3, 4)
	return []struct {
		x   api.Type
		all []pile
	}{
		{rows, []pile{
			pileOf(structs(0, 4, inner, many, ons), "{{i4;}[i7;]t}", "{{i5;}[]t}", "{n[i7;i8;]n}", "{{i5;}[i8;i8;]t}"),
			pileOf(structs(2, 1, inner, many, ons), "{n[i7;i8;]n}"),
			pileOf(structs(4, 0, inner, many, ons)),
		}},
		{typeOf(list(-1), list(0), list(1), list(2), leaf(2, 3)), []pile{
			pileOf(lists(0, four, 0, 0, 1), "[]", "[[[[s1:as1:b]][[s1:c]]]]"),
			pileOf(lists(0, four, 0, 0, 0), "[]", "[]"),
			pileOf(lists(1, four, 0, 1)),
		}},
		{typeOf(list(-1), row(0), list(1), row(2), leaf(2, 3)), []pile{
			pileOf(within, "[{[{s1:a}]}]", "[]", "[{[{s1:b}]}{[{s1:c}]}]"),
			pileOf(with(within, func(a *api.Array) { a.Offset, a.Length = 2, 1 }), "[{[{s1:b}]}{[{s1:c}]}]"),
		}},
		{may, []pile{
			pileOf(lacking(lacks, "\x16"), "[n{[fn]}]", "[{n}]", "n", "[{[t]}]"),
			pileOf(lacks, "[n{[fn]}]", "[{n}]", "[]", "[{[t]}]"),
			pileOf(lacking(lacks, "\x00"), "n", "n", "n", "n"),
		}},
	}
}

func TestNested(t *testing.T) {
	for _, c := range nested() {
		for _, p := range c.all {
			holdEach(t, c.x, 0, p)
		}
	}
}

// At whichever node, the buffers are read as that node says.
func TestWhichNode(t *testing.T) {
	x := typeOf(row(-1), list(0), leaf(0, 0), null(row(0)), leaf(2, 1), leaf(1, 3), null(leaf(0, 3)))
	words, few := texts(1, "x", "a", "b"), numbers(1, 9, 7, 8)
	many := lists(1, words, 0, 0, 1, 2)
	pairs := lacking(structs(0, 3, truths(0, 3, "\x05"), lacking(numbers(1, 9, 4, 5, 6), "\x06")), "\x06")
	holdEach(t, x, 0, pileOf(structs(0, 2, many, few, pairs), "{[s1:a]i7;n}", "{[s1:b]i8;{fi5;}}"))
	holdEach(t, x, 1, pileOf(many, "[s1:a]", "[s1:b]"))
	holdEach(t, x, 2, pileOf(few, "i7;", "i8;"))
	holdEach(t, x, 3, pileOf(pairs, "n", "{fi5;}", "{tn}"))
	holdEach(t, x, 4, pileOf(words, "s1:a", "s1:b"))
	// The same buffers are truths at a node of truths, numbers at one of numbers.
	holdEach(t, x, 5, pileOf(few, "f", "f"))
	holdEach(t, x, 6, pileOf(lacking(few, "\x04"), "n", "i8;"))
}

// No rows at all, of however many there are, and of none: what is told has nothing of the buffers.
func TestNoRows(t *testing.T) {
	three := numbers(0, 1, 2, 3)
	for _, c := range []struct {
		x    api.Type
		some []api.Array
		none api.Array
	}{
		{ints, []api.Array{{}, {Kids: []api.Array{}}, {Data: "abcdefgh"}, three, numbers(2, 1, 2), {Offset: 64, Data: strings.Repeat("a", 512)}, dict(0, api.Array{}), dict(2, three, 0, 9), dict(1, three, 9, 1), run(0, 0, api.Array{}), run(2, 0, three, 1, 2, 5), run(2, 3, three, 1, 2, 5)}, api.Array{}},
		{mayInts, []api.Array{{}, lacking(api.Array{}, "\x00"), lacking(three, "\x05"), lacking(numbers(3, 1, 2, 3), "\x05"), lacking(dict(1, three, 9), "\x00"), run(0, 0, lacking(three, "\x00"), 1, 2, 3)}, api.Array{}},
		{bools, []api.Array{{}, truths(0, 3, "\xff"), truths(9, 0, "\xff\xff"), dict(1, truths(0, 1, "\x01"), 0), run(1, 0, truths(0, 1, "\x01"), 1)}, api.Array{}},
		{bytes, []api.Array{texts(0), texts(0, "a", "b"), texts(2, "a", "b"), more(texts(0)), {Ends: fours(2), Data: "ab"}, dict(0, texts(0)), dict(1, texts(0, "a"), 7), run(0, 0, texts(0)), run(1, 0, texts(0, "a"), 1)}, api.Array{Ends: "\x00\x00\x00\x00"}},
		{typeOf(list(-1), leaf(2, 0)), []api.Array{lists(0, texts(0), 0), lists(1, texts(0, "a"), 0, 1), lists(0, texts(0, "a"), 1), lists(0, texts(0, "a"), 0, 1)}, api.Array{Ends: "\x00\x00\x00\x00", Kids: []api.Array{{Ends: "\x00\x00\x00\x00"}}}},
		{typeOf(null(row(-1)), leaf(0, 0), leaf(1, 0)), []api.Array{structs(0, 0, api.Array{}, api.Array{}), structs(0, 0, three, truths(0, 3, "\x07")), lacking(structs(2, 0, three, dict(0, truths(0, 1, "\x01"), 0, 0)), "\x01"), lacking(structs(0, 3, three, truths(0, 3, "\x07")), "\x01")}, api.Array{Kids: []api.Array{{}, {}}}},
	} {
		for _, a := range c.some {
			for _, rows := range [][]int{nil, {}, make([]int, 0, 9)} {
				if got, e := Take(c.x, 0, a, rows); !same(got, c.none) || e != api.OK {
					t.Errorf("P13.1: %v of %s: %s, %d; want %s", rows, told(a), told(got), e, told(c.none))
				}
			}
			if a.Length == 0 {
				hold(t, c.x, pileOf(a))
			}
		}
	}
}

// holdTwice holds that rows of rows are rows of the array that they were taken of.
func holdTwice(t *testing.T, x api.Type, at int, p pile, rows []int, again []int) {
	t.Helper()
	once, e := Take(x, at, p.a, rows)
	if e != api.OK {
		t.Fatalf("P13.1: %v at node %d of %v: %s: %d", rows, at, x, told(p.a), e)
	}
	holdAt(t, x, at, pileOf(once, chosen(p.vs, rows)...), again...)
	var both []int
	for _, i := range again {
		both = append(both, rows[i])
	}
	twice, e := Take(x, at, once, again)
	direct, f := Take(x, at, p.a, both)
	if !same(twice, direct) || e != api.OK || f != api.OK {
		t.Errorf("P13.1: %v of %v at node %d of %v: %s: %s, %d; want %s, %d", again, rows, at, x, told(p.a), told(twice), e, told(direct), f)
	}
}

func TestTwice(t *testing.T) {
	twice := func(x api.Type, all []pile) {
		t.Helper()
		for _, p := range all {
			for _, rows := range picks(len(p.vs)) {
				for _, again := range picks(min(len(rows), 4)) {
					holdTwice(t, x, 0, p, rows, again)
				}
			}
		}
	}
	for _, c := range onces() {
		twice(c.must, layouts(c.all[1]))
		twice(c.may, gaps(c.all[0]))
	}
	for _, c := range nested() {
		twice(c.x, c.all)
	}
}

// As many rows and bytes as the buffers may have, each of them alone and all turned round.
func TestGreatest(t *testing.T) {
	var xs, ends, up, down []int
	var vs []string
	for i := range api.MaxRows {
		xs, ends, vs = append(xs, 3*i), append(ends, i+1), append(vs, fmt.Sprintf("i%d;", 3*i))
		up, down = append(up, i), append(down, api.MaxRows-1-i)
	}
	full := numbers(0, xs...)
	full.Data += strings.Repeat("\xff", api.MaxBuffer-len(full.Data))
	full.Valid = strings.Repeat("\xff", api.MaxBuffer)
	falling := slices.Clone(vs)
	slices.Reverse(falling)
	for _, p := range []pile{pileOf(full, vs...), pileOf(run(0, api.MaxRows, numbers(0, xs...), ends...), vs...), pileOf(dict(0, numbers(0, xs...), down...), falling...)} {
		holdAt(t, mayInts, 0, p, up...)
		holdAt(t, mayInts, 0, p, down...)
		for i := range api.MaxRows {
			holdAt(t, mayInts, 0, p, i)
			holdAt(t, mayInts, 0, p, slices.Repeat([]int{i}, api.MaxRows)...)
		}
	}
	last := pileOf(with(full, func(a *api.Array) { a.Offset, a.Length = 40, 24 }), vs[40:]...)
	holdAt(t, mayInts, 0, last, slices.Concat(up[:24], down[40:], up[8:24])...)
	// Ahead of Offset bytes may be longer than MaxBytes; they are not brought back.
	long := api.Array{Offset: 1, Length: 2, Ends: fours(2, 20, 21, 37), Data: "!!" + strings.Repeat("x", 18) + "abbbbbbbbbbbbbbbb?"}
	hold(t, bytes, pileOf(long, "s1:a", "s16:bbbbbbbbbbbbbbbb"))
	most := strings.Repeat("m", api.MaxBytes)
	holdAt(t, bytes, 0, pileOf(texts(0, "", most), "s0:", "s16:"+most), slices.Repeat([]int{1}, api.MaxRows)...)
	holdAt(t, bytes, 0, pileOf(run(0, 32, texts(0, most), 32), times(32, "s16:"+most)...), slices.Concat(up[:32], down[32:])...)
}
