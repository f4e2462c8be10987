package read

import (
	"encoding/binary"
	"fmt"
	"math"
	"slices"
	"strconv"
	"strings"
	"testing"

	"quiver/api"
)

const (
	least    = math.MinInt
	greatest = math.MaxInt
)

func typeOf(nodes ...api.Node) api.Type { return api.Type{Nodes: nodes} }

func leaf(kind int, parent int) api.Node { return api.Node{Kind: kind, Parent: parent} }

func list(parent int) api.Node { return api.Node{Kind: api.KindList, Parent: parent} }

func row(parent int) api.Node { return api.Node{Kind: api.KindStruct, Parent: parent} }

func null(n api.Node) api.Node {
	n.Null = true
	return n
}

// The types of the leaves, and of those that may be nothing.
var (
	ints, bools, bytes          = typeOf(leaf(api.KindInt, -1)), typeOf(leaf(api.KindBool, -1)), typeOf(leaf(api.KindBytes, -1))
	mayInts, mayBools, mayBytes = typeOf(null(leaf(api.KindInt, -1))), typeOf(null(leaf(api.KindBool, -1))), typeOf(null(leaf(api.KindBytes, -1)))
)

// fours gives numbers, four bytes each.
func fours(xs ...uint32) string {
	var out []byte
	for _, x := range xs {
		out = binary.LittleEndian.AppendUint32(out, x)
	}
	return string(out)
}

// eights gives numbers, eight bytes each.
func eights(xs ...int) string {
	var out []byte
	for _, x := range xs {
		out = binary.LittleEndian.AppendUint64(out, uint64(x))
	}
	return string(out)
}

// lay lays a kind's values down as they are, the first ones of them ahead of Offset.
func lay(offset int, ends []uint32, data string, length int) api.Array {
	return api.Array{Offset: offset, Length: length, Ends: fours(ends...), Data: data}
}

// numbers lays whole numbers down, the first ones of them ahead of Offset.
func numbers(offset int, xs ...int) api.Array {
	return api.Array{Offset: offset, Length: len(xs) - offset, Data: eights(xs...)}
}

// truths lays truths down by the bytes that they are in.
func truths(offset int, length int, data string) api.Array {
	return api.Array{Offset: offset, Length: length, Data: data}
}

// texts lays bytes down, the first ones of them ahead of Offset.
func texts(offset int, ss ...string) api.Array {
	ends := []uint32{0}
	for _, s := range ss {
		ends = append(ends, ends[len(ends)-1]+uint32(len(s)))
	}
	return lay(offset, ends, strings.Join(ss, ""), len(ss)-offset)
}

// lists lays lists down by their ends, the first ones of them ahead of Offset.
func lists(offset int, kid api.Array, ends ...uint32) api.Array {
	a := lay(offset, ends, "", len(ends)-1-offset)
	a.Kids = []api.Array{kid}
	return a
}

// structs lays structs down.
func structs(offset int, length int, kids ...api.Array) api.Array {
	return api.Array{Offset: offset, Length: length, Kids: kids}
}

// dict lays rows down by a dictionary, the first ones of them ahead of Offset.
func dict(offset int, kid api.Array, numbers ...uint32) api.Array {
	return api.Array{Layout: api.LayoutDict, Offset: offset, Length: len(numbers) - offset, Data: fours(numbers...), Kids: []api.Array{kid}}
}

// run lays rows down by where runs end.
func run(offset int, length int, kid api.Array, ends ...uint32) api.Array {
	return api.Array{Layout: api.LayoutRun, Offset: offset, Length: length, Data: fours(ends...), Kids: []api.Array{kid}}
}

// with gives an array with something turned; what lies within the one that was given stays.
func with(a api.Array, turn func(a *api.Array)) api.Array {
	a.Kids = slices.Clone(a.Kids)
	turn(&a)
	return a
}

// lacking gives an array with bits of what is there.
func lacking(a api.Array, valid string) api.Array {
	return with(a, func(a *api.Array) { a.Valid = valid })
}

// told tells an array, not too long, its texts' bytes as Go writes them.
func told(a api.Array) string {
	s := fmt.Sprintf("%#v", a)
	return s[:min(len(s), 400)]
}

// outside are numbers that are no row of length ones.
func outside(length int) []int {
	return []int{least, least + 1, -1 << 32, -1 << 31, -65, -64, -2, -1, length, length + 1, length + 2, length + 63, length + 64, length + 255, length + 256, 1<<31 + length, 1<<32 + length, greatest - 64, greatest - 1, greatest}
}

// holdAt holds what each row is told to be, and that there is no other row.
func holdAt(t *testing.T, x api.Type, at int, a api.Array, want ...string) {
	t.Helper()
	if got, e := Values(x, at, a); !slices.Equal(got, want) || e != api.OK {
		t.Errorf("P9.1: values at node %d of %v: %s: %q, %d; want %q", at, x, told(a), got, e, want)
	}
	for i, v := range want {
		if got, e := Value(x, at, a, i); got != v || e != api.OK {
			t.Errorf("P9.1: row %d at node %d of %v: %s: %q, %d; want %q", i, at, x, told(a), got, e, v)
		}
	}
	for _, i := range outside(len(want)) {
		refuseRow(t, x, at, a, i)
	}
}

func refuseRow(t *testing.T, x api.Type, at int, a api.Array, i int) {
	t.Helper()
	if got, e := Value(x, at, a, i); got != "" || e != api.ErrReadForm {
		t.Errorf("P9.1: row %d at node %d of %v: %s: %q, %d; want ErrReadForm", i, at, x, told(a), got, e)
	}
}

func refuseAt(t *testing.T, x api.Type, at int, a api.Array) {
	t.Helper()
	if got, e := Values(x, at, a); len(got) != 0 || e != api.ErrReadForm {
		t.Errorf("P9.1: values at node %d of %v: %s: %q, %d; want ErrReadForm", at, x, told(a), got, e)
	}
	for _, i := range append(outside(3), 0, 1, 2) {
		refuseRow(t, x, at, a, i)
	}
}

// moved gives the nodes of x, behind as many others as stand ahead, below the first one of them.
func moved(x api.Type, ahead ...api.Node) api.Type {
	by := len(ahead)
	for i, n := range x.Nodes {
		n.Parent += by
		if i == 0 {
			n.Parent = 0
		}
		ahead = append(ahead, n)
	}
	return typeOf(ahead...)
}

// hold holds it of node 0, and of that node below a list and below a struct.
func hold(t *testing.T, x api.Type, a api.Array, want ...string) {
	t.Helper()
	holdAt(t, x, 0, a, want...)
	n := len(want)
	within := moved(x, list(-1))
	holdAt(t, within, 1, a, want...)
	holdAt(t, within, 0, lists(1, a, 0, 0, uint32(n/2), uint32(n/2), uint32(n)), listed(want[:n/2]), "[]", listed(want[n/2:]))
	within = moved(x, row(-1), leaf(api.KindInt, 0))
	holdAt(t, within, 2, a, want...)
	var rows []string
	for i, v := range want {
		rows = append(rows, "{i"+strconv.Itoa(-i)+";"+v+"}")
	}
	side := numbers(1, 100, 0, -1, -2, -3, -4, -5, -6, -7, -8, -9, -10, -11, -12, -13, -14, -15, -16, -17, -18, -19, -20)
	holdAt(t, within, 0, structs(0, n, side, a), rows...)
	if n > 1 {
		holdAt(t, within, 0, structs(1, n-1, side, a), rows[1:]...)
	}
}

// listed tells a list of values.
func listed(vs []string) string { return "[" + strings.Join(vs, "") + "]" }

// refuse holds it of node 0, and of that node below a list and below a struct, though no row of theirs reaches it.
func refuse(t *testing.T, x api.Type, a api.Array) {
	t.Helper()
	refuseAt(t, x, 0, a)
	within := moved(x, list(-1))
	refuseAt(t, within, 1, a)
	refuseAt(t, within, 0, lists(0, a, 0, 0, 0, 0))
	refuseAt(t, within, 0, lists(0, a, 0))
	within = moved(x, row(-1), leaf(api.KindInt, 0))
	refuseAt(t, within, 2, a)
	refuseAt(t, within, 0, structs(0, 0, numbers(0), a))
}

func TestNoType(t *testing.T) {
	nine := []api.Node{row(-1)}
	for range 8 {
		nine = append(nine, leaf(0, 0))
	}
	for _, x := range []api.Type{
		{}, {Nodes: []api.Node{}}, typeOf(nine...),
		typeOf(leaf(0, 0)), typeOf(leaf(0, -2)), typeOf(leaf(5, -1)), typeOf(leaf(-1, -1)), typeOf(leaf(least, -1)), typeOf(leaf(greatest, -1)),
		typeOf(list(-1)), typeOf(row(-1)), typeOf(list(-1), leaf(0, 0), leaf(0, 0)), typeOf(leaf(0, -1), leaf(0, 0)),
		typeOf(row(-1), leaf(0, 0), leaf(0, 1)), typeOf(row(-1), leaf(0, 0), leaf(0, 2)), typeOf(row(-1), leaf(0, 0), leaf(0, -1)), typeOf(row(-1), leaf(0, 0), leaf(0, greatest)),
		typeOf(row(-1), leaf(0, 0), leaf(7, 0)), typeOf(row(-1), leaf(0, 0), list(0)),
		typeOf(list(-1), list(0), list(1), list(2), list(3), leaf(0, 4)),
	} {
		for _, at := range []int{least, -1, 0, 1, 2, 3, len(x.Nodes) - 1, len(x.Nodes), greatest} {
			for _, a := range []api.Array{{}, numbers(0, 1, 2, 3), texts(0, "a", "b", "c"), lists(0, numbers(0, 1, 2, 3), 0, 1, 2, 3), structs(0, 3, numbers(0, 1, 2, 3)), structs(0, 3, numbers(0, 1, 2, 3), numbers(0, 1, 2, 3))} {
				refuseAt(t, x, at, a)
			}
		}
	}
}

func TestNoNode(t *testing.T) {
	wide := typeOf(row(-1), leaf(0, 0), list(0), leaf(0, 2))
	for _, x := range []api.Type{ints, mayInts, wide} {
		n := len(x.Nodes)
		for _, at := range []int{least, least + 1, -1 << 32, -n, -3, -2, -1, n, n + 1, 2 * n, api.MaxNodes, 256, 1 << 31, 1 << 32, 1<<32 + 1, greatest - 1, greatest} {
			if at < 0 || at >= n {
				refuseAt(t, x, at, numbers(0, 1, 2, 3))
				refuseAt(t, x, at, api.Array{})
			}
		}
	}
}

// Of a type's nodes the one that is asked about counts, and no other.
func TestWhichNode(t *testing.T) {
	x := typeOf(row(-1), list(0), leaf(0, 0), null(row(0)), leaf(2, 1), leaf(1, 3), null(leaf(0, 3)))
	words, few, ons := texts(1, "x", "a", "b"), numbers(1, 9, 7, 8), truths(1, 2, "\x02")
	many := lists(1, words, 0, 0, 1, 2)
	pairs := lacking(structs(0, 3, truths(0, 3, "\x05"), lacking(numbers(1, 9, 4, 5, 6), "\x06")), "\x06")
	rows := structs(0, 2, many, few, pairs)
	holdAt(t, x, 0, rows, "{[s1:a]i7;n}", "{[s1:b]i8;{fi5;}}")
	holdAt(t, x, 1, many, "[s1:a]", "[s1:b]")
	holdAt(t, x, 2, few, "i7;", "i8;")
	holdAt(t, x, 3, pairs, "n", "{fi5;}", "{tn}")
	holdAt(t, x, 4, words, "s1:a", "s1:b")
	holdAt(t, x, 5, ons, "t", "f")
	holdAt(t, x, 6, lacking(few, "\x04"), "n", "i8;")
	// The same buffers are truths at a node of truths, numbers at one of numbers.
	holdAt(t, x, 5, few, "f", "f")
	for at, a := range []api.Array{rows, many, few, pairs, words} {
		for other := range 7 {
			if other != at && at != 2 {
				refuseAt(t, x, other, a)
			}
		}
	}
	refuseAt(t, x, 2, lacking(few, "\x07"))
}

// As they are, of each kind; also where the fault stands in no row that is asked for, or in what no value needs.
func TestNoArray(t *testing.T) {
	three, words := numbers(0, 1, 2, 3), texts(0, "a", "b", "c")
	for _, a := range []api.Array{
		{Offset: -1, Length: 3, Data: three.Data}, {Length: -1}, {Length: least}, {Length: greatest}, {Offset: least, Length: least}, {Offset: greatest, Length: greatest},
		{Offset: 1, Length: 3, Data: three.Data}, {Length: 4, Data: three.Data}, {Length: 3, Data: three.Data[1:]}, {Length: 3}, {Length: 65, Data: strings.Repeat("\x00", 65*8)},
		{Length: 3, Data: strings.Repeat("\x00", api.MaxBuffer+1)}, lacking(three, "\x07"), {Length: 3, Data: three.Data, Ends: fours(0)}, {Length: 3, Data: three.Data, Kids: []api.Array{{}}}, {Layout: 3, Length: 3, Data: three.Data}, {Layout: -1, Length: 3, Data: three.Data}, words,
	} {
		refuse(t, ints, a)
	}
	for _, a := range []api.Array{lacking(three, strings.Repeat("\xff", api.MaxBuffer+1)), lacking(numbers(6, 1, 2, 3, 4, 5, 6, 7, 8, 9), "\xff")} {
		refuse(t, mayInts, a)
	}
	for _, a := range []api.Array{
		with(words, func(a *api.Array) { a.Ends = a.Ends[:15] }), with(words, func(a *api.Array) { a.Data = "ab" }), lay(0, []uint32{0, 2, 1, 3}, "abc", 3), lay(2, []uint32{2, 1, 1, 3}, "abc", 1), lay(0, []uint32{0, 17, 17, 17}, strings.Repeat("a", 17), 3),
		lay(0, []uint32{0, 1, 1 << 31, 3}, "abc", 3), three,
	} {
		refuse(t, bytes, a)
	}
	refuse(t, bools, truths(3, 6, "\xff"))
	some := typeOf(list(-1), leaf(0, 0))
	for _, a := range []api.Array{lists(0, three, 0, 1, 4, 4), lists(0, three, 0, 2, 1, 3), with(lists(0, three, 0, 1, 2, 3), func(a *api.Array) { a.Kids = nil }), with(lists(0, three, 0, 1, 2, 3), func(a *api.Array) { a.Kids = append(a.Kids, three) }), with(lists(0, three, 0, 1, 2, 3), func(a *api.Array) { a.Data = "\x00" }), three, words} {
		refuse(t, some, a)
	}
	pair := typeOf(row(-1), leaf(0, 0), leaf(0, 0))
	for _, a := range []api.Array{structs(0, 3, three), structs(0, 3, three, three, three), structs(1, 3, three, three), structs(0, 3, three, numbers(1, 1, 2, 3)), structs(0, 3, three, words), with(structs(0, 3, three, three), func(a *api.Array) { a.Ends = fours(0) })} {
		refuse(t, pair, a)
	}
}

func TestNoDictNoRun(t *testing.T) {
	three, may := numbers(0, 1, 2, 3), lacking(numbers(0, 1, 2, 3), "\x07")
	for _, a := range []api.Array{
		dict(0, three, 0, 1, 2, 3), dict(0, three, 0, 1<<31, 1), dict(0, may, 0, 1, 2), dict(0, dict(0, three, 0, 1, 2), 0, 1, 2), dict(0, run(0, 3, three, 1, 2, 3), 0, 1, 2), dict(0, texts(0, "a", "b", "c"), 0, 1, 2),
		with(dict(0, three, 0, 1, 2), func(a *api.Array) { a.Kids = nil }), with(dict(0, three, 0, 1, 2), func(a *api.Array) { a.Data = a.Data[1:] }), with(dict(0, three, 0, 1, 2), func(a *api.Array) { a.Ends = fours(0) }), lacking(dict(1, three, 0, 1, 2, 0, 1, 2, 0, 1, 2), "\xff"),
		run(0, 3, three, 1, 2), run(0, 3, three, 1, 2, 3, 4), run(0, 4, three, 1, 2, 3), run(1, 3, three, 1, 2, 3), run(0, 3, three, 0, 2, 3), run(0, 3, three, 1, 1, 3), run(0, 3, three, 2, 1, 3), run(0, 3, three, 1, 2, 1<<31), run(0, 1, numbers(0)),
		lacking(run(0, 3, three, 1, 2, 3), "\x07"), run(0, 3, run(0, 3, three, 1, 2, 3), 1, 2, 3), run(0, 3, dict(0, three, 0, 1, 2), 1, 2, 3), run(0, 3, texts(0, "a", "b", "c"), 1, 2, 3), with(run(0, 3, three, 1, 2, 3), func(a *api.Array) { a.Kids = append(a.Kids, three) }),
	} {
		refuse(t, mayInts, a)
	}
	some, pair := typeOf(list(-1), leaf(0, 0)), typeOf(row(-1), leaf(0, 0))
	many, rows := lists(0, three, 0, 1, 2, 3), structs(0, 3, three)
	refuse(t, some, dict(0, many, 0, 1, 2))
	refuse(t, some, run(0, 3, many, 1, 2, 3))
	refuse(t, pair, dict(0, rows, 0, 1, 2))
	refuse(t, pair, run(0, 3, rows, 1, 2, 3))
}

func TestNoRows(t *testing.T) {
	for _, a := range []api.Array{{}, {Kids: []api.Array{}}, {Data: "abcdefgh"}, numbers(2, 1, 2), {Offset: 64, Data: strings.Repeat("a", 512)}, dict(0, api.Array{}), dict(2, numbers(0, 1), 0, 9), run(0, 0, api.Array{}), run(2, 0, numbers(0, 7), 5)} {
		hold(t, ints, a)
		hold(t, mayInts, a)
	}
	hold(t, mayInts, lacking(api.Array{}, "\x00"))
	hold(t, bools, api.Array{})
	hold(t, bytes, texts(0))
	hold(t, bytes, texts(2, "a", "b"))
	hold(t, typeOf(list(-1), leaf(2, 0)), lists(0, texts(0), 0))
	hold(t, typeOf(list(-1), leaf(2, 0)), lists(1, texts(0, "a"), 0, 1))
	hold(t, typeOf(row(-1), leaf(0, 0), leaf(1, 0)), structs(0, 0, api.Array{}, api.Array{}))
	hold(t, typeOf(row(-1), leaf(0, 0), leaf(1, 0)), structs(2, 0, numbers(0, 1, 2), truths(0, 2, "\x03")))
}

func TestInts(t *testing.T) {
	xs := []int{0, 1, -1, 9, 10, -10, 127, 128, -128, -129, 255, 256, 1<<31 - 1, 1 << 31, -1 << 31, 1<<32 - 1, 1 << 32, 0x0102030405060708, least, greatest}
	var vs []string
	for _, x := range xs {
		vs = append(vs, fmt.Sprintf("i%d;", x))
	}
	for offset := range xs {
		a := numbers(offset, xs...)
		hold(t, ints, a, vs[offset:]...)
		hold(t, mayInts, a, vs[offset:]...)
		hold(t, ints, with(a, func(a *api.Array) { a.Data += "\xff" }), vs[offset:]...)
		hold(t, ints, with(a, func(a *api.Array) { a.Data += strings.Repeat("\xff", api.MaxBuffer-len(a.Data)) }), vs[offset:]...)
		hold(t, ints, with(a, func(a *api.Array) { a.Length = 1 }), vs[offset])
	}
}

func TestTruths(t *testing.T) {
	data := "\x9a\x01\xfe\x5a"
	var vs []string
	for i := range 20 {
		vs = append(vs, map[bool]string{true: "t", false: "f"}[data[i/8]>>(i%8)&1 == 1])
	}
	if strings.Join(vs, "") != "ftfttfft"+"tfffffff"+"fttt" {
		t.Fatalf("truths: %q", vs)
	}
	for offset := range 20 {
		for length := range 21 - offset {
			a := truths(offset, length, data[:(offset+length+7)/8])
			hold(t, bools, a, vs[offset:offset+length]...)
			hold(t, mayBools, with(a, func(a *api.Array) { a.Data += "\xff\xff" }), vs[offset:offset+length]...)
		}
	}
}

func TestBytes(t *testing.T) {
	ss := []string{"", "a", "\x00", "\xff", ";", "]", "}", "n", "i5;", "s1:a", "[", "{t}", "3:ab", "\r\n", "0123456789", "0123456789abcde", strings.Repeat("\xfe", api.MaxBytes), "[i-5;i7;]s2:a]}n", "", ""}
	var vs []string
	for _, s := range ss {
		vs = append(vs, fmt.Sprintf("s%d:%s", len(s), s))
	}
	for offset := range ss {
		a := texts(offset, ss...)
		hold(t, bytes, a, vs[offset:]...)
		hold(t, mayBytes, a, vs[offset:]...)
		hold(t, bytes, with(a, func(a *api.Array) { a.Data, a.Ends = a.Data+"more", a.Ends+fours(0, 1<<31)+"\xff" }), vs[offset:]...)
		hold(t, bytes, with(a, func(a *api.Array) { a.Length = 1 }), vs[offset])
	}
	// The first end need not be 0, and ahead of Offset more than MaxBytes may lie between two.
	hold(t, bytes, lay(0, []uint32{2, 4, 4, 7}, "xxabcde!", 3), "s2:ab", "s0:", "s3:cde")
	hold(t, bytes, lay(1, []uint32{0, 20, 21, 37}, strings.Repeat("x", 20)+"abbbbbbbbbbbbbbbb", 2), "s1:a", "s16:bbbbbbbbbbbbbbbb")
}
