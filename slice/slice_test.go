package slice

import (
	"encoding/binary"
	"fmt"
	"math"
	"slices"
	"strings"
	"testing"

	"quiver/api"
	"quiver/array"
	"quiver/read"
)

const (
	least    = math.MinInt
	greatest = math.MaxInt
)

func typeOf(nodes ...api.Node) api.Type { return api.Type{Nodes: nodes} }

func leaf(kind int, parent int) api.Node { return api.Node{Kind: kind, Parent: parent} }

func list(parent int) api.Node { return leaf(api.KindList, parent) }

func row(parent int) api.Node { return leaf(api.KindStruct, parent) }

func null(n api.Node) api.Node {
	n.Null = true
	return n
}

// The types of the leaves, and of those that may be nothing.
var (
	ints, bools, bytes          = typeOf(leaf(api.KindInt, -1)), typeOf(leaf(api.KindBool, -1)), typeOf(leaf(api.KindBytes, -1))
	mayInts, mayBools, mayBytes = typeOf(null(leaf(api.KindInt, -1))), typeOf(null(leaf(api.KindBool, -1))), typeOf(null(leaf(api.KindBytes, -1)))
)

// moved is a type whose first node stands below the first one of others, all of those ahead of it.
func moved(x api.Type, ahead ...api.Node) api.Type {
	nodes := slices.Clone(ahead)
	for i, n := range x.Nodes {
		n.Parent += len(ahead)
		if i == 0 {
			n.Parent = 0
		}
		nodes = append(nodes, n)
	}
	return typeOf(nodes...)
}

// fours gives numbers, four bytes each.
func fours(xs ...int) string {
	var out []byte
	for _, x := range xs {
		out = binary.LittleEndian.AppendUint32(out, uint32(x))
	}
	return string(out)
}

// eights gives numbers, eight bytes each.
func eights(xs ...int) string {
	var out []byte
	for _, x := range xs {
		out = binary.LittleEndian.AppendUint64(out, uint64(x))
	}
	return string(out)
}

// numbers lays whole numbers down, the first ones of them ahead of Offset.
func numbers(offset int, xs ...int) api.Array {
	return api.Array{Offset: offset, Length: len(xs) - offset, Data: eights(xs...)}
}

// truths lays truths down by the bytes that they are in.
func truths(offset int, length int, data string) api.Array {
	return api.Array{Offset: offset, Length: length, Data: data}
}

// texts lays bytes down, the first ones of them ahead of Offset.
func texts(offset int, ss ...string) api.Array {
	ends := []int{0}
	for _, s := range ss {
		ends = append(ends, ends[len(ends)-1]+len(s))
	}
	return api.Array{Offset: offset, Length: len(ss) - offset, Ends: fours(ends...), Data: strings.Join(ss, "")}
}

// lists lays lists down by their ends, the first ones of them ahead of Offset.
func lists(offset int, kid api.Array, ends ...int) api.Array {
	return api.Array{Offset: offset, Length: len(ends) - 1 - offset, Ends: fours(ends...), Kids: []api.Array{kid}}
}

// structs lays structs down.
func structs(offset int, length int, kids ...api.Array) api.Array {
	return api.Array{Offset: offset, Length: length, Kids: kids}
}

// dict lays rows down by a dictionary, the first ones of them ahead of Offset.
func dict(offset int, kid api.Array, numbers ...int) api.Array {
	return api.Array{Layout: api.LayoutDict, Offset: offset, Length: len(numbers) - offset, Data: fours(numbers...), Kids: []api.Array{kid}}
}

// run lays rows down by where runs end.
func run(offset int, length int, kid api.Array, ends ...int) api.Array {
	return api.Array{Layout: api.LayoutRun, Offset: offset, Length: length, Data: fours(ends...), Kids: []api.Array{kid}}
}

// with gives an array with something turned; what lies within the one that was given stays.
func with(a api.Array, turn func(a *api.Array)) api.Array {
	a.Kids = slices.Clone(a.Kids)
	turn(&a)
	return a
}

// lacking gives an array with bits of what is there.
func lacking(a api.Array, valid string) api.Array {
	a.Valid = valid
	return a
}

// more gives an array with more bytes behind those texts that it has.
func more(a api.Array) api.Array {
	for _, text := range []*string{&a.Valid, &a.Ends, &a.Data} {
		if *text != "" {
			*text += "\xff\xfe\xfd\xfc\xfb"
		}
	}
	return a
}

// same tells whether two arrays are one; no Kids and nil are one.
func same(a api.Array, b api.Array) bool {
	return a.Layout == b.Layout && a.Offset == b.Offset && a.Length == b.Length && a.Valid == b.Valid && a.Ends == b.Ends && a.Data == b.Data && slices.EqualFunc(a.Kids, b.Kids, same)
}

// told tells an array, not too long.
func told(a api.Array) string {
	s := fmt.Sprintf("%#v", a)
	return s[:min(len(s), 400)]
}

// holdRange holds what is told of a range that is: the array just so, that it may be, and that its rows are just those.
func holdRange(t *testing.T, x api.Type, at int, a api.Array, from int, count int, vs []string) {
	t.Helper()
	want := deep(a)
	want.Offset, want.Length = a.Offset+from, count
	got, e := Slice(x, at, a, from, count)
	if !same(got, want) || e != api.OK {
		t.Errorf("P11.1: %d, %d at node %d of %v: %s: %s, %d; want %s", from, count, at, x, told(a), told(got), e, told(want))
	}
	if !array.May(x, at, got) {
		t.Errorf("P11.1: %d, %d at node %d of %v: %s: what is told may not be: %s", from, count, at, x, told(a), told(got))
	}
	if rows, e := read.Values(x, at, got); !slices.Equal(rows, vs[from:from+count]) || e != api.OK {
		t.Errorf("T2: %d, %d at node %d of %v: %s is read as %q, %d; want %q", from, count, at, x, told(a), rows, e, vs[from:from+count])
	}
}

// holdAt holds all ranges of an array whose rows are vs, and that there are no others.
func holdAt(t *testing.T, x api.Type, at int, a api.Array, vs ...string) {
	t.Helper()
	for from := range len(vs) + 1 {
		for count := range len(vs) - from + 1 {
			holdRange(t, x, at, a, from, count, vs)
		}
	}
	for _, r := range outside(len(vs)) {
		refuseAt(t, x, at, a, r, api.ErrSliceRange)
	}
}

// listed tells a list of values.
func listed(vs []string) string { return "[" + strings.Join(vs, "") + "]" }

// hold holds it of node 0, and of that node below a list and below a struct.
func hold(t *testing.T, x api.Type, a api.Array, vs ...string) {
	t.Helper()
	holdAt(t, x, 0, a, vs...)
	n := len(vs)
	some := moved(x, list(-1))
	holdAt(t, some, 1, a, vs...)
	holdAt(t, some, 0, lists(0, a, 0, 0, n/2, n/2, n), "[]", listed(vs[:n/2]), "[]", listed(vs[n/2:]))
	holdAt(t, some, 0, lists(2, a, 0, 0, n/2, n/2, n), "[]", listed(vs[n/2:]))
	pair := moved(x, row(-1), leaf(api.KindInt, 0))
	holdAt(t, pair, 2, a, vs...)
	var xs []int
	var rows []string
	for i, v := range vs {
		xs, rows = append(xs, -i), append(rows, fmt.Sprintf("{i%d;%s}", -i, v))
	}
	holdAt(t, pair, 0, structs(0, n, numbers(0, xs...), a), rows...)
	if n > 0 {
		holdAt(t, pair, 0, structs(1, n-1, numbers(0, xs...), a), rows[1:]...)
		// The kids have rows behind the struct's last one.
		holdAt(t, pair, 0, structs(0, n-1, numbers(0, xs...), a), rows[:n-1]...)
	}
}

func TestSlice(t *testing.T) {
	words := texts(0, "ab", "", "cde", "f")
	some, pair := typeOf(null(list(-1)), leaf(2, 0)), typeOf(null(row(-1)), leaf(1, 0), leaf(2, 0))
	for _, c := range []struct {
		x           api.Type
		a           api.Array
		from, count int
		want        api.Array
	}{
		{ints, numbers(0, 7, -8, 9), 1, 1, api.Array{Offset: 1, Length: 1, Data: "\x07\x00\x00\x00\x00\x00\x00\x00" + "\xf8\xff\xff\xff\xff\xff\xff\xff" + "\x09\x00\x00\x00\x00\x00\x00\x00"}},
		{ints, numbers(2, 7, -8, 9, 10), 1, 1, api.Array{Offset: 3, Length: 1, Data: eights(7, -8, 9, 10)}},
		{mayInts, lacking(numbers(1, 7, -8, 9, 10), "\x0b"), 0, 2, api.Array{Offset: 1, Length: 2, Valid: "\x0b", Data: eights(7, -8, 9, 10)}},
		{ints, dict(1, numbers(1, 9, 7, 8), 0, 1, 0, 1), 1, 2, api.Array{Layout: api.LayoutDict, Offset: 2, Length: 2, Data: fours(0, 1, 0, 1), Kids: []api.Array{{Offset: 1, Length: 2, Data: eights(9, 7, 8)}}}},
		{mayInts, lacking(dict(0, numbers(0, 7), 0, 5, 0), "\x05"), 1, 1, api.Array{Layout: api.LayoutDict, Offset: 1, Length: 1, Valid: "\x05", Data: fours(0, 5, 0), Kids: []api.Array{{Length: 1, Data: eights(7)}}}},
		{mayInts, run(1, 5, lacking(numbers(1, 9, 7, 8), "\x05"), 3, 6), 2, 2, api.Array{Layout: api.LayoutRun, Offset: 3, Length: 2, Data: fours(3, 6), Kids: []api.Array{{Offset: 1, Length: 2, Valid: "\x05", Data: eights(9, 7, 8)}}}},
		{bools, truths(7, 9, "\x5a\xa5"), 8, 1, api.Array{Offset: 15, Length: 1, Data: "\x5a\xa5"}},
		{bools, dict(0, truths(3, 2, "\x08"), 0, 1), 0, 1, api.Array{Layout: api.LayoutDict, Length: 1, Data: fours(0, 1), Kids: []api.Array{{Offset: 3, Length: 2, Data: "\x08"}}}},
		{bools, run(0, 8, truths(0, 2, "\x01"), 5, 9), 8, 0, api.Array{Layout: api.LayoutRun, Offset: 8, Data: fours(5, 9), Kids: []api.Array{{Length: 2, Data: "\x01"}}}},
		{bytes, words, 2, 2, api.Array{Offset: 2, Length: 2, Ends: "\x00\x00\x00\x00" + "\x02\x00\x00\x00" + "\x02\x00\x00\x00" + "\x05\x00\x00\x00" + "\x06\x00\x00\x00", Data: "abcdef"}},
		{bytes, dict(0, words, 3, 2, 0), 1, 2, api.Array{Layout: api.LayoutDict, Offset: 1, Length: 2, Data: fours(3, 2, 0), Kids: []api.Array{words}}},
		{bytes, run(2, 5, words, 1, 2, 3, 9), 1, 3, api.Array{Layout: api.LayoutRun, Offset: 3, Length: 3, Data: fours(1, 2, 3, 9), Kids: []api.Array{words}}},
		{some, lacking(lists(1, words, 0, 1, 1, 4), "\x0d"), 1, 1, api.Array{Offset: 2, Length: 1, Valid: "\x0d", Ends: fours(0, 1, 1, 4), Kids: []api.Array{words}}},
		{pair, lacking(structs(1, 2, truths(0, 4, "\x0f"), words), "\x06"), 2, 0, api.Array{Offset: 3, Valid: "\x06", Kids: []api.Array{{Length: 4, Data: "\x0f"}, words}}},
		{pair, structs(0, 3, truths(0, 4, "\x0f"), dict(1, words, 0, 1, 2, 3)), 0, 3, api.Array{Length: 3, Kids: []api.Array{{Length: 4, Data: "\x0f"}, {Layout: api.LayoutDict, Offset: 1, Length: 3, Data: fours(0, 1, 2, 3), Kids: []api.Array{words}}}}},
	} {
		got, e := Slice(c.x, 0, c.a, c.from, c.count)
		if !same(got, c.want) || e != api.OK {
			t.Errorf("P11.1: %d, %d of %v: %s: %s, %d; want %s", c.from, c.count, c.x, told(c.a), told(got), e, told(c.want))
		}
	}
}

// onces is an array of each kind that is neither list nor struct: four rows, some ahead of them.
func onces() []struct {
	must, may api.Type
	a         api.Array
	vs        []string
} {
	return []struct {
		must, may api.Type
		a         api.Array
		vs        []string
	}{
		{ints, mayInts, numbers(0, 7, -8, least, greatest), []string{"i7;", "i-8;", "i-9223372036854775808;", "i9223372036854775807;"}},
		{ints, mayInts, numbers(2, 50, 60, 7, -8, 0, 1), []string{"i7;", "i-8;", "i0;", "i1;"}},
		{bools, mayBools, truths(0, 4, "\x06"), []string{"f", "t", "t", "f"}},
		{bools, mayBools, truths(3, 4, "\x2f"), []string{"t", "f", "t", "f"}},
		{bytes, mayBytes, texts(0, "", "a", "0123456789abcdef", ":;"), []string{"s0:", "s1:a", "s16:0123456789abcdef", "s2::;"}},
		{bytes, mayBytes, texts(1, "xx", "[", "", "n", "abc"), []string{"s1:[", "s0:", "s1:n", "s3:abc"}},
	}
}

func TestPlain(t *testing.T) {
	for _, c := range onces() {
		gaps := string([]byte{0x0b << c.a.Offset})
		for _, a := range []api.Array{c.a, more(c.a)} {
			hold(t, c.must, a, c.vs...)
			hold(t, c.may, a, c.vs...)
			hold(t, c.may, lacking(a, gaps), c.vs[0], c.vs[1], "n", c.vs[3])
			hold(t, c.may, lacking(a, gaps+"\xff"), c.vs[0], c.vs[1], "n", c.vs[3])
			hold(t, c.may, lacking(a, "\x00"), "n", "n", "n", "n")
			hold(t, c.may, lacking(a, "\xff"), c.vs...)
		}
		// Rows that the buffers have behind the last one are none.
		hold(t, c.must, with(c.a, func(a *api.Array) { a.Length = 2 }), c.vs[:2]...)
	}
}

func TestDict(t *testing.T) {
	for _, c := range onces() {
		vs := c.vs
		for _, x := range []api.Type{c.must, c.may} {
			hold(t, x, dict(0, c.a, 3, 3, 0, 2, 1), vs[3], vs[3], vs[0], vs[2], vs[1])
			hold(t, x, more(dict(2, c.a, 9, 1<<31, 3, 1, 1)), vs[3], vs[1], vs[1])
		}
		hold(t, c.may, lacking(dict(1, c.a, 9, 3, 9, 1, 0), "\x1a"), vs[3], "n", vs[1], vs[0])
	}
}

func TestRun(t *testing.T) {
	for _, c := range onces() {
		vs := c.vs
		for _, x := range []api.Type{c.must, c.may} {
			hold(t, x, run(0, 6, c.a, 2, 3, 5, 6), vs[0], vs[0], vs[1], vs[2], vs[2], vs[3])
			hold(t, x, run(1, 4, c.a, 2, 3, 5, api.Most), vs[0], vs[1], vs[2], vs[2])
			// Runs behind the last row.
			hold(t, x, run(0, 2, c.a, 1, 20, 30, 1000), vs[0], vs[1])
		}
		gaps := lacking(c.a, string([]byte{0x05 << c.a.Offset}))
		hold(t, c.may, run(1, 6, gaps, 2, 3, 6, 8), vs[0], "n", vs[2], vs[2], vs[2], "n")
	}
}

// What lies within stays as it is, however deep: Offset and Length of Kids too.
func TestDeep(t *testing.T) {
	four := typeOf(list(-1), list(0), list(1), list(2), leaf(2, 3))
	a := texts(1, "x", "a", "b", "c")
	a = lists(1, a, 0, 0, 2, 3)
	a = lists(1, a, 0, 0, 1, 2)
	a = lists(1, a, 0, 0, 2)
	holdAt(t, four, 0, lists(0, a, 0, 0, 1), "[]", "[[[[s1:as1:b]][[s1:c]]]]")
	x := typeOf(row(-1), null(row(0)), leaf(0, 1), list(0), leaf(0, 3), null(leaf(1, 0)))
	inner := lacking(structs(2, 4, dict(1, numbers(1, 9, 4, 5), 0, 0, 1, 0, 1, 0, 1)), "\x2c")
	many := lists(1, run(1, 6, numbers(0, 7, 8), 4, 7), 0, 1, 2, 2, 4, 6)
	ons := lacking(truths(3, 5, "\x5a"), "\xdf")
	rows := structs(0, 4, inner, many, ons)
	holdAt(t, x, 0, rows, "{{i4;}[i7;]t}", "{{i5;}[]t}", "{n[i7;i8;]n}", "{{i5;}[i8;i8;]t}")
	holdAt(t, x, 0, structs(1, 3, inner, many, ons), "{{i5;}[]t}", "{n[i7;i8;]n}", "{{i5;}[i8;i8;]t}")
	holdAt(t, x, 1, inner, "{i4;}", "{i5;}", "n", "{i5;}")
	holdAt(t, x, 3, many, "[i7;]", "[]", "[i7;i8;]", "[i8;i8;]")
	wide := typeOf(null(row(-1)), leaf(0, 0), leaf(0, 0), leaf(0, 0), leaf(0, 0), leaf(0, 0), leaf(0, 0), leaf(0, 0))
	var kids []api.Array
	for i := range 7 {
		kids = append(kids, numbers(i, slices.Repeat([]int{i}, i+3)...))
	}
	holdAt(t, wide, 0, lacking(structs(0, 3, kids...), "\x05"), "{i0;i1;i2;i3;i4;i5;i6;}", "n", "{i0;i1;i2;i3;i4;i5;i6;}")
}

func TestNoRows(t *testing.T) {
	for _, a := range []api.Array{{}, {Kids: []api.Array{}}, {Data: "abcdefgh"}, numbers(2, 1, 2), {Offset: 64, Data: strings.Repeat("a", 512)}, dict(0, api.Array{}), dict(2, numbers(0, 1), 0, 9), run(0, 0, api.Array{}), run(2, 0, numbers(0, 7), 5)} {
		hold(t, ints, a)
		hold(t, mayInts, a)
	}
	hold(t, mayInts, lacking(api.Array{}, "\x00"))
	hold(t, bools, api.Array{})
	hold(t, bytes, texts(0))
	hold(t, bytes, texts(2, "a", "b"))
	hold(t, typeOf(list(-1), leaf(2, 0)), lists(1, texts(0, "a"), 0, 1))
	hold(t, typeOf(row(-1), leaf(0, 0), leaf(1, 0)), structs(2, 0, numbers(0, 1, 2), truths(0, 2, "\x03")))
}

// As many rows and bytes as may be.
func TestGreatest(t *testing.T) {
	var xs, ends []int
	var vs []string
	for i := range api.MaxRows {
		xs, ends, vs = append(xs, 3*i), append(ends, i+1), append(vs, fmt.Sprintf("i%d;", 3*i))
	}
	full := numbers(0, xs...)
	full.Data += strings.Repeat("\xff", api.MaxBuffer-len(full.Data))
	full.Valid = strings.Repeat("\xff", api.MaxBuffer)
	holdAt(t, mayInts, 0, full, vs...)
	full.Offset, full.Length = 60, 4
	holdAt(t, mayInts, 0, full, vs[60:]...)
	holdAt(t, ints, 0, run(40, 24, numbers(0, xs...), ends...), vs[40:]...)
	holdAt(t, ints, 0, dict(0, numbers(0, xs...), append(ends[:63:63], 0)...), append(vs[1:64:64], vs[0])...)
}

// Ahead of Offset bytes may be longer than MaxBytes; a slice does not bring them back.
func TestLongAhead(t *testing.T) {
	a := api.Array{Offset: 1, Length: 2, Ends: fours(2, 20, 21, 37), Data: "!!" + strings.Repeat("x", 18) + "abbbbbbbbbbbbbbbb?"}
	hold(t, bytes, a, "s1:a", "s16:bbbbbbbbbbbbbbbb")
}

// A slice of a slice is the one slice of both.
func TestSliceOfSlice(t *testing.T) {
	x, as := mixed()
	for at, a := range map[int]api.Array{0: as[0], 1: as[0].Kids[0], 3: as[0].Kids[1], 4: as[0].Kids[2]} {
		for from := range a.Length + 1 {
			for count := range a.Length - from + 1 {
				part, _ := Slice(x, at, a, from, count)
				for again := range count + 1 {
					for few := range count - again + 1 {
						got, e := Slice(x, at, part, again, few)
						want, f := Slice(x, at, a, from+again, few)
						if !same(got, want) || e != api.OK || f != api.OK {
							t.Errorf("P11.1: %d, %d of %d, %d at node %d of %s: %s, %d; want %s, %d", again, few, from, count, at, told(a), told(got), e, told(want), f)
						}
					}
				}
				// The rows that the buffers have beyond the slice's are none of it.
				for _, r := range outside(count) {
					refuseAt(t, x, at, part, r, api.ErrSliceRange)
				}
			}
		}
	}
}
