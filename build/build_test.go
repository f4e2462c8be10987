package build

import (
	"encoding/binary"
	"fmt"
	"math"
	"slices"
	"strings"
	"testing"

	"quiver/api"
	"quiver/array"
	"quiver/read"
)

const (
	least    = math.MinInt
	greatest = math.MaxInt
)

func typeOf(nodes ...api.Node) api.Type { return api.Type{Nodes: nodes} }

func leaf(kind int, parent int) api.Node { return api.Node{Kind: kind, Parent: parent} }

func list(parent int) api.Node { return leaf(api.KindList, parent) }

func row(parent int) api.Node { return leaf(api.KindStruct, parent) }

func null(n api.Node) api.Node {
	n.Null = true
	return n
}

// The types of the leaves, and of those that may be nothing.
var (
	ints, bools, bytes          = typeOf(leaf(api.KindInt, -1)), typeOf(leaf(api.KindBool, -1)), typeOf(leaf(api.KindBytes, -1))
	mayInts, mayBools, mayBytes = typeOf(null(leaf(api.KindInt, -1))), typeOf(null(leaf(api.KindBool, -1))), typeOf(null(leaf(api.KindBytes, -1)))
)

// moved is a type whose first node stands below the first one of others, all of those ahead of it.
func moved(x api.Type, ahead ...api.Node) api.Type {
	nodes := slices.Clone(ahead)
	for i, n := range x.Nodes {
		n.Parent += len(ahead)
		if i == 0 {
			n.Parent = 0
		}
		nodes = append(nodes, n)
	}
	return typeOf(nodes...)
}

// fours gives numbers, four bytes each.
func fours(xs ...int) string {
	var out []byte
	for _, x := range xs {
		out = binary.LittleEndian.AppendUint32(out, uint32(x))
	}
	return string(out)
}

// eights gives numbers, eight bytes each.
func eights(xs ...int) string {
	var out []byte
	for _, x := range xs {
		out = binary.LittleEndian.AppendUint64(out, uint64(x))
	}
	return string(out)
}

// packed gives truths, a bit each.
func packed(ons ...bool) string {
	out := make([]byte, (len(ons)+7)/8)
	for i, on := range ons {
		if on {
			out[i/8] |= 1 << (i % 8)
		}
	}
	return string(out)
}

// numbers lays whole numbers down.
func numbers(xs ...int) api.Array { return api.Array{Length: len(xs), Data: eights(xs...)} }

// truths lays truths down by the bytes that they are in.
func truths(length int, data string) api.Array { return api.Array{Length: length, Data: data} }

// texts lays bytes down.
func texts(ss ...string) api.Array {
	ends := []int{0}
	for _, s := range ss {
		ends = append(ends, ends[len(ends)-1]+len(s))
	}
	return api.Array{Length: len(ss), Ends: fours(ends...), Data: strings.Join(ss, "")}
}

// lists lays lists down by their ends.
func lists(kid api.Array, ends ...int) api.Array {
	return api.Array{Length: len(ends) - 1, Ends: fours(ends...), Kids: []api.Array{kid}}
}

// structs lays structs down.
func structs(length int, kids ...api.Array) api.Array { return api.Array{Length: length, Kids: kids} }

// lacking gives an array with bits of what is there.
func lacking(a api.Array, valid string) api.Array {
	a.Valid = valid
	return a
}

// same tells whether two arrays are one; no Kids and nil are one.
func same(a api.Array, b api.Array) bool {
	return a.Layout == b.Layout && a.Offset == b.Offset && a.Length == b.Length && a.Valid == b.Valid && a.Ends == b.Ends && a.Data == b.Data && slices.EqualFunc(a.Kids, b.Kids, same)
}

// short tells anything, not too long.
func short(x any) string {
	s := fmt.Sprintf("%#v", x)
	return s[:min(len(s), 400)]
}

// holdAt holds what is built, and that it may be and is read as what it was built of.
func holdAt(t *testing.T, x api.Type, at int, want api.Array, vs ...string) {
	t.Helper()
	got, e := Build(x, at, vs)
	if !same(got, want) || e != api.OK {
		t.Errorf("P10.1: at node %d of %v: %s: %s, %d; want %s", at, x, short(vs), short(got), e, short(want))
	}
	if !array.May(x, at, got) {
		t.Errorf("P10.2: at node %d of %v: %s: what is built may not be: %s", at, x, short(vs), short(got))
	}
	if back, e := read.Values(x, at, got); !slices.Equal(back, vs) || e != api.OK {
		t.Errorf("P10.2: at node %d of %v: %s is read as %s, %d", at, x, short(vs), short(back), e)
	}
}

// hold holds it of node 0, and of that node below a list and below a struct.
func hold(t *testing.T, x api.Type, want api.Array, vs ...string) {
	t.Helper()
	holdAt(t, x, 0, want, vs...)
	n := len(vs)
	some := moved(x, list(-1))
	holdAt(t, some, 1, want, vs...)
	holdAt(t, some, 0, lists(want, 0, n), listed(vs...))
	holdAt(t, some, 0, lists(want, 0, 0, n/2, n/2, n), "[]", listed(vs[:n/2]...), "[]", listed(vs[n/2:]...))
	pair := moved(x, row(-1), leaf(api.KindInt, 0))
	holdAt(t, pair, 2, want, vs...)
	var xs []int
	var rows []string
	for i, v := range vs {
		xs, rows = append(xs, -i), append(rows, fmt.Sprintf("{i%d;%s}", -i, v))
	}
	holdAt(t, pair, 0, structs(n, numbers(xs...), want), rows...)
}

// listed tells a list of values.
func listed(vs ...string) string { return "[" + strings.Join(vs, "") + "]" }

// many gives so many texts.
func many(count int, one func(i int) string) []string {
	var out []string
	for i := range count {
		out = append(out, one(i))
	}
	return out
}

// truthOf tells a truth.
func truthOf(on bool) string { return map[bool]string{true: "t", false: "f"}[on] }

// times gives one text so many times.
func times(count int, v string) []string { return slices.Repeat([]string{v}, count) }

func TestNoValues(t *testing.T) {
	for _, x := range []api.Type{ints, bools, mayInts, mayBools} {
		hold(t, x, api.Array{})
	}
	for _, x := range []api.Type{bytes, mayBytes} {
		hold(t, x, api.Array{Ends: "\x00\x00\x00\x00"})
	}
	zero := "\x00\x00\x00\x00"
	some, pair := typeOf(list(-1), leaf(0, 0)), typeOf(row(-1), leaf(0, 0), leaf(2, 0), leaf(1, 0))
	hold(t, some, api.Array{Ends: zero, Kids: []api.Array{{}}})
	hold(t, typeOf(null(list(-1)), null(leaf(2, 0))), api.Array{Ends: zero, Kids: []api.Array{{Ends: zero}}})
	hold(t, pair, api.Array{Kids: []api.Array{{}, {Ends: zero}, {}}})
	hold(t, typeOf(null(row(-1)), null(list(0)), leaf(1, 1), row(0), leaf(2, 3)), api.Array{Kids: []api.Array{{Ends: zero, Kids: []api.Array{{}}}, {Kids: []api.Array{{Ends: zero}}}}})
	// No values in lists that are there.
	holdAt(t, some, 0, lists(numbers(), 0, 0, 0), "[]", "[]")
	holdAt(t, typeOf(list(-1), leaf(2, 0)), 0, lists(texts(), 0, 0), "[]")
	// An empty list of values is as good as nil.
	if a, e := Build(bytes, 0, []string{}); !same(a, texts()) || e != api.OK {
		t.Errorf("P10.1: %s, %d", short(a), e)
	}
}

func TestNumbers(t *testing.T) {
	hold(t, ints, api.Array{Length: 3, Data: "\x07\x00\x00\x00\x00\x00\x00\x00" + "\xf8\xff\xff\xff\xff\xff\xff\xff" + "\x08\x07\x06\x05\x04\x03\x02\x01"}, "i7;", "i-8;", "i72623859790382856;")
	hold(t, ints, api.Array{Length: 2, Data: "\x00\x00\x00\x00\x00\x00\x00\x80" + "\xff\xff\xff\xff\xff\xff\xff\x7f"}, "i-9223372036854775808;", "i9223372036854775807;")
	for _, x := range []int{0, 1, -1, 9, 10, -10, 127, 128, -128, -129, 255, 256, 1<<31 - 1, 1 << 31, -1 << 31, 1<<32 - 1, 1 << 32, -1 << 32, 1 << 53, least, least + 1, greatest, greatest - 1} {
		v := fmt.Sprintf("i%d;", x)
		hold(t, ints, numbers(x), v)
		hold(t, mayInts, numbers(5, x, x, -5), "i5;", v, v, "i-5;")
	}
	var xs []int
	for i := range 64 {
		xs = append(xs, (i-32)<<(i%58))
	}
	holdAt(t, ints, 0, numbers(xs...), many(64, func(i int) string { return fmt.Sprintf("i%d;", xs[i]) })...)
}

func TestTruths(t *testing.T) {
	hold(t, bools, truths(1, "\x00"), "f")
	hold(t, bools, truths(1, "\x01"), "t")
	hold(t, bools, truths(8, "\xc5"), strings.Split("t f t f f f t t", " ")...)
	hold(t, mayBools, truths(9, "\x00\x01"), strings.Split("f f f f f f f f t", " ")...)
	hold(t, mayBools, truths(9, "\xfe\x00"), strings.Split("f t t t t t t t f", " ")...)
	for n := 1; n <= 64; n++ {
		holdAt(t, bools, 0, truths(n, packed(slices.Repeat([]bool{true}, n)...)), times(n, "t")...)
		holdAt(t, bools, 0, truths(n, strings.Repeat("\x00", (n+7)/8)), times(n, "f")...)
		var ons []bool
		for i := range n {
			ons = append(ons, i%3 == 0 || i%7 == 1)
		}
		holdAt(t, bools, 0, truths(n, packed(ons...)), many(n, func(i int) string { return truthOf(ons[i]) })...)
	}
}

func TestBytes(t *testing.T) {
	hold(t, bytes, api.Array{Length: 3, Ends: "\x00\x00\x00\x00" + "\x02\x00\x00\x00" + "\x02\x00\x00\x00" + "\x03\x00\x00\x00", Data: "abc"}, "s2:ab", "s0:", "s1:c")
	hold(t, bytes, texts(""), "s0:")
	hold(t, bytes, texts("", "", ""), "s0:", "s0:", "s0:")
	for _, s := range []string{"", "a", "\x00", "\xff", ";", "]", "}", "n", "i5;", "s1:a", "[", "{t}", "3:ab", "\r\n", "é", "0123456789", "0123456789abcde", "0123456789abcdef", strings.Repeat("\x00", api.MaxBytes), "[i-5;i7;]s2:a]}n"} {
		v := fmt.Sprintf("s%d:%s", len(s), s)
		hold(t, bytes, texts(s), v)
		hold(t, mayBytes, texts("x", s, s, "", "yz"), "s1:x", v, v, "s0:", "s2:yz")
	}
	// As much as may be: more than 255 bytes and more than 255 in Ends.
	s := "0123456789abcdef"
	holdAt(t, bytes, 0, texts(times(64, s)...), times(64, "s16:"+s)...)
}

func TestValid(t *testing.T) {
	for _, c := range []struct {
		x       api.Type
		v       string
		there   func(count int, ons []bool) api.Array
		nothing string
	}{
		{mayInts, "i7;", func(_ int, ons []bool) api.Array {
			var xs []int
			for _, on := range ons {
				xs = append(xs, map[bool]int{true: 7}[on])
			}
			return numbers(xs...)
		}, "i0;"},
		{mayBools, "t", func(n int, ons []bool) api.Array { return truths(n, packed(ons...)) }, "f"},
		{mayBytes, "s2:ab", func(n int, ons []bool) api.Array {
			return texts(many(n, func(i int) string { return map[bool]string{true: "ab"}[ons[i]] })...)
		}, "s0:"},
	} {
		for _, n := range []int{1, 2, 7, 8, 9, 15, 16, 17, 63, 64} {
			// Just one is nothing, all but one, each third, none, all of them.
			all := [][]bool{slices.Repeat([]bool{true}, n), make([]bool, n)}
			for one := range n {
				but, only := slices.Repeat([]bool{true}, n), make([]bool, n)
				but[one], only[one] = false, true
				all = append(all, but, only)
			}
			third := make([]bool, n)
			for i := range third {
				third[i] = i%3 == 1
			}
			for _, ons := range append(all, third) {
				vs := many(n, func(i int) string { return map[bool]string{true: c.v, false: "n"}[ons[i]] })
				want := c.there(n, ons)
				if slices.Contains(ons, false) {
					want.Valid = packed(ons...)
				}
				holdAt(t, c.x, 0, want, vs...)
				// With what stands for nothing in its place all are there.
				for i := range vs {
					if !ons[i] {
						vs[i] = c.nothing
					}
				}
				holdAt(t, c.x, 0, lacking(want, ""), vs...)
			}
		}
	}
}

func TestNothing(t *testing.T) {
	hold(t, mayInts, api.Array{Length: 1, Valid: "\x00", Data: "\x00\x00\x00\x00\x00\x00\x00\x00"}, "n")
	hold(t, mayBools, api.Array{Length: 1, Valid: "\x00", Data: "\x00"}, "n")
	hold(t, mayBytes, api.Array{Length: 1, Valid: "\x00", Ends: fours(0, 0)}, "n")
	hold(t, mayInts, lacking(numbers(5, 0, -6), "\x05"), "i5;", "n", "i-6;")
	hold(t, mayInts, lacking(numbers(0, 1, 0), "\x02"), "n", "i1;", "n")
	hold(t, mayBools, lacking(truths(4, "\x09"), "\x0d"), "t", "n", "f", "t")
	hold(t, mayBytes, lacking(texts("a", "", "", "bc"), "\x0d"), "s1:a", "n", "s0:", "s2:bc")
	hold(t, mayInts, lacking(numbers(1, 2, 3, 4, 5, 6, 7, 8, 0), "\xff\x00"), "i1;", "i2;", "i3;", "i4;", "i5;", "i6;", "i7;", "i8;", "n")
	hold(t, mayInts, lacking(numbers(0, 2, 3, 4, 5, 6, 7, 8, 9), "\xfe\x01"), "n", "i2;", "i3;", "i4;", "i5;", "i6;", "i7;", "i8;", "i9;")
	// What may be nothing, and is not, has no bits.
	hold(t, mayInts, numbers(0, 0), "i0;", "i0;")
	hold(t, mayBytes, texts("n", ""), "s1:n", "s0:")
}

// Of a type's nodes the one that is asked about counts, and no other.
func TestWhichNode(t *testing.T) {
	x := typeOf(row(-1), list(0), leaf(0, 0), null(row(0)), leaf(2, 1), leaf(1, 3), null(leaf(0, 3)))
	holdAt(t, x, 0, structs(2, lists(texts("a", "b"), 0, 1, 2), numbers(7, 8), lacking(structs(2, truths(2, "\x00"), lacking(numbers(0, 5), "\x02")), "\x02")), "{[s1:a]i7;n}", "{[s1:b]i8;{fi5;}}")
	holdAt(t, x, 1, lists(texts("a", "b"), 0, 1, 1, 2), "[s1:a]", "[]", "[s1:b]")
	holdAt(t, x, 2, numbers(7, 8), "i7;", "i8;")
	holdAt(t, x, 3, lacking(structs(3, truths(3, "\x04"), lacking(numbers(0, 5, 0), "\x02")), "\x06"), "n", "{fi5;}", "{tn}")
	holdAt(t, x, 4, texts("a", "b"), "s1:a", "s1:b")
	holdAt(t, x, 5, truths(2, "\x01"), "t", "f")
	holdAt(t, x, 6, lacking(numbers(0, 8), "\x02"), "n", "i8;")
}
