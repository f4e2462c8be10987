package array

import (
	"encoding/binary"
	"fmt"
	"math"
	"reflect"
	"slices"
	"strings"
	"sync"
	"testing"

	"quiver/api"
)

const (
	least    = math.MinInt
	greatest = math.MaxInt
)

func typeOf(nodes ...api.Node) api.Type { return api.Type{Nodes: nodes} }

func leaf(kind int, parent int) api.Node { return api.Node{Kind: kind, Parent: parent} }

func list(parent int) api.Node { return api.Node{Kind: api.KindList, Parent: parent} }

func row(parent int) api.Node { return api.Node{Kind: api.KindStruct, Parent: parent} }

func null(n api.Node) api.Node {
	n.Null = true
	return n
}

// tree is a type whose first node is of a kind: a list is one of truths, a struct one of whole numbers and truths.
func tree(kind int, may bool) api.Type {
	first := api.Node{Kind: kind, Parent: -1, Null: may}
	switch kind {
	case api.KindList:
		return typeOf(first, leaf(api.KindBool, 0))
	case api.KindStruct:
		return typeOf(first, leaf(api.KindInt, 0), leaf(api.KindBool, 0))
	}
	return typeOf(first)
}

// fours gives numbers, four bytes each.
func fours(xs ...uint32) string {
	var out []byte
	for _, x := range xs {
		out = binary.LittleEndian.AppendUint32(out, x)
	}
	return string(out)
}

// upTo gives 0 to n, each times by.
func upTo(n int, by int) []uint32 {
	var xs []uint32
	for i := range n + 1 {
		xs = append(xs, uint32(i*by))
	}
	return xs
}

// some gives so many bytes; as a number they are above Most, as bits each is 1.
func some(n int) string { return strings.Repeat("\xff", n) }

// plainOf lays rows of a tree down as they are, in just as many bytes as they need: bytes are two a row, a list has one value.
func plainOf(kind int, offset int, length int) api.Array {
	a, n := api.Array{Offset: offset, Length: length}, offset+length
	switch kind {
	case api.KindInt:
		a.Data = some(8 * n)
	case api.KindBool:
		a.Data = some((n + 7) / 8)
	case api.KindBytes:
		a.Ends, a.Data = fours(upTo(n, 2)...), some(2*n)
	case api.KindList:
		a.Ends, a.Kids = fours(upTo(n, 1)...), []api.Array{plainOf(api.KindBool, 0, n)}
	case api.KindStruct:
		a.Kids = []api.Array{plainOf(api.KindInt, 0, n), plainOf(api.KindBool, 0, n)}
	}
	return a
}

// dictOf lays rows down by a dictionary of three values.
func dictOf(kind int, offset int, length int) api.Array {
	a := api.Array{Layout: api.LayoutDict, Offset: offset, Length: length, Kids: []api.Array{plainOf(kind, 1, 3)}}
	for i := range offset + length {
		a.Data += fours(uint32(i % 3))
	}
	return a
}

// runOf lays rows down by runs of two.
func runOf(kind int, offset int, length int) api.Array {
	a, n := api.Array{Layout: api.LayoutRun, Offset: offset, Length: length}, offset+length
	for i := 2; i < n+2; i += 2 {
		a.Data += fours(uint32(min(i, n)))
	}
	a.Kids = []api.Array{plainOf(kind, 1, len(a.Data)/4)}
	return a
}

// shape is a kind in a layout, and what lays so many rows down.
type shape struct {
	kind   int
	layout int
	lay    func(kind int, offset int, length int) api.Array
}

func (s shape) of(offset int, length int) api.Array { return s.lay(s.kind, offset, length) }

// shapes are all kinds in all layouts that they may have.
func shapes() []shape {
	var all []shape
	for kind := api.KindInt; kind <= api.KindStruct; kind++ {
		all = append(all, shape{kind, api.LayoutPlain, plainOf})
		if kind < api.KindList {
			all = append(all, shape{kind, api.LayoutDict, dictOf}, shape{kind, api.LayoutRun, runOf})
		}
	}
	return all
}

// told tells an array, not too long, its texts' bytes as Go writes them.
func told(a api.Array) string {
	s := fmt.Sprintf("%#v", a)
	return s[:min(len(s), 600)]
}

func holdAt(t *testing.T, x api.Type, at int, a api.Array, want bool) {
	t.Helper()
	if got := May(x, at, a); got != want {
		t.Errorf("P8.1: at node %d of %v: %s: %v; want %v", at, x, told(a), got, want)
	}
}

// moved gives the nodes of x, behind as many others as stand ahead, below the first one of them.
func moved(x api.Type, ahead ...api.Node) api.Type {
	by := len(ahead)
	for i, n := range x.Nodes {
		n.Parent += by
		if i == 0 {
			n.Parent = 0
		}
		ahead = append(ahead, n)
	}
	return typeOf(ahead...)
}

// hold holds it of node 0, and of that node below others: whether those may be hangs on it alone.
func hold(t *testing.T, x api.Type, a api.Array, want bool) {
	t.Helper()
	holdAt(t, x, 0, a, want)
	within := moved(x, list(-1))
	holdAt(t, within, 1, a, want)
	holdAt(t, within, 0, api.Array{Ends: fours(0), Kids: []api.Array{a}}, want)
	within = moved(x, row(-1), leaf(api.KindInt, 0))
	holdAt(t, within, 2, a, want)
	holdAt(t, within, 0, api.Array{Kids: []api.Array{{}, a}}, want)
}

// with gives an array with something turned; what lies within the one that was given stays.
func with(a api.Array, turn func(a *api.Array)) api.Array {
	a.Kids = slices.Clone(a.Kids)
	turn(&a)
	return a
}

// parted gives ways to part n rows by an Offset.
func parted(n int) []int {
	return slices.Compact([]int{0, min(1, n), n / 2, max(n-1, 0), n})
}

func TestJustEnough(t *testing.T) {
	for _, s := range shapes() {
		for n := range api.MaxRows + 1 {
			for _, offset := range parted(n) {
				hold(t, tree(s.kind, false), s.of(offset, n-offset), true)
				hold(t, tree(s.kind, true), s.of(offset, n-offset), true)
			}
		}
	}
}

func TestOffsetAndLength(t *testing.T) {
	for _, s := range shapes() {
		// The buffers are for all the rows that may be; so only the two numbers can be wrong.
		whole := s.of(0, api.MaxRows)
		if s.layout == api.LayoutPlain && s.kind != api.KindStruct {
			whole = s.of(0, api.MaxRows+2)
		}
		if s.kind == api.KindList {
			whole.Ends, whole.Kids = fours(make([]uint32, 70)...), []api.Array{plainOf(api.KindBool, 0, 64)}
		}
		if s.layout == api.LayoutDict {
			whole.Data += fours(0, 0, 0)
		}
		if s.layout == api.LayoutRun {
			whole.Data = whole.Data[:4*31] + fours(1000)
		}
		far := []int{least, least + 1, -1 << 62, -1 << 32, -65, -64, -2, -1, 0, 1, 31, 32, 33, 63, 64, 65, 66, 1 << 31, 1 << 32, 1 << 62, greatest - 64, greatest - 1, greatest}
		for _, offset := range far {
			for _, length := range far {
				a := whole
				a.Offset, a.Length = offset, length
				want := offset >= 0 && offset <= 64 && length >= 0 && length <= 64 && offset+length <= 64
				hold(t, tree(s.kind, false), a, want)
			}
		}
	}
}

func TestLongTexts(t *testing.T) {
	for _, s := range shapes() {
		for _, n := range []int{0, 1, 9, 64} {
			a := s.of(n/2, n-n/2)
			for _, size := range []int{api.MaxBuffer - 1, api.MaxBuffer, api.MaxBuffer + 1, 2 * api.MaxBuffer, 1 << 17} {
				fill := func(text string) string { return text + some(size-len(text)) }
				want := size <= api.MaxBuffer
				hold(t, tree(s.kind, true), with(a, func(a *api.Array) { a.Valid = fill("") }), want && s.layout != api.LayoutRun)
				hold(t, tree(s.kind, false), with(a, func(a *api.Array) { a.Valid = fill("") }), false)
				ends := s.layout == api.LayoutPlain && (s.kind == api.KindBytes || s.kind == api.KindList)
				hold(t, tree(s.kind, false), with(a, func(a *api.Array) { a.Ends = fill(a.Ends) }), want && ends)
				data := s.layout == api.LayoutDict || s.layout == api.LayoutPlain && s.kind <= api.KindBytes
				hold(t, tree(s.kind, false), with(a, func(a *api.Array) { a.Data = fill(a.Data) }), want && data)
				hold(t, tree(s.kind, true), with(a, func(a *api.Array) { a.Valid, a.Data = fill(""), fill(a.Data) }), want && data)
			}
		}
	}
}

func TestHowManyValid(t *testing.T) {
	for _, s := range shapes() {
		for n := range api.MaxRows + 1 {
			for _, offset := range parted(n) {
				a := s.of(offset, n-offset)
				for size := range n/8 + 4 {
					for _, b := range []string{"\x00", "\x5a", "\xff"} {
						a.Valid = strings.Repeat(b, size)
						enough := 8*size >= n && s.layout != api.LayoutRun
						hold(t, tree(s.kind, true), a, size == 0 || enough)
						hold(t, tree(s.kind, false), a, size == 0)
					}
				}
			}
		}
	}
}

// The first node is Null, or the one below it: each has its own Valid.
func TestWhoMayLack(t *testing.T) {
	for _, kind := range []int{api.KindList, api.KindStruct} {
		for _, above := range []bool{false, true} {
			for _, below := range []bool{false, true} {
				x := tree(kind, above)
				last := len(x.Nodes) - 1
				x.Nodes[last].Null = below
				a := plainOf(kind, 1, 4)
				hold(t, x, with(a, func(a *api.Array) { a.Valid = "\x0a" }), above)
				hold(t, x, with(a, func(a *api.Array) { a.Kids[last-1].Valid = "\x0a" }), below)
				hold(t, x, with(a, func(a *api.Array) { a.Valid, a.Kids[last-1].Valid = "\x0a", "\x0a" }), above && below)
			}
		}
	}
}

func TestNoType(t *testing.T) {
	nine := []api.Node{row(-1)}
	for range 8 {
		nine = append(nine, leaf(0, 0))
	}
	for _, x := range []api.Type{
		{}, {Nodes: []api.Node{}}, typeOf(nine...),
		typeOf(leaf(0, 0)), typeOf(leaf(0, -2)), typeOf(leaf(5, -1)), typeOf(leaf(-1, -1)), typeOf(leaf(least, -1)), typeOf(leaf(greatest, -1)),
		typeOf(list(-1)), typeOf(row(-1)), typeOf(list(-1), leaf(0, 0), leaf(0, 0)), typeOf(leaf(0, -1), leaf(0, 0)),
		typeOf(row(-1), leaf(0, 0), leaf(0, 1)), typeOf(row(-1), leaf(0, 0), leaf(0, 2)), typeOf(row(-1), leaf(0, 0), leaf(0, -1)), typeOf(row(-1), leaf(0, 0), leaf(0, greatest)),
		typeOf(row(-1), leaf(0, 0), leaf(7, 0)), typeOf(row(-1), leaf(0, 0), list(0)),
		typeOf(list(-1), list(0), list(1), list(2), list(3), leaf(0, 4)),
	} {
		for _, at := range []int{least, -1, 0, 1, 2, 3, len(x.Nodes) - 1, len(x.Nodes), greatest} {
			holdAt(t, x, at, api.Array{}, false)
			holdAt(t, x, at, api.Array{Ends: fours(0)}, false)
			holdAt(t, x, at, api.Array{Ends: fours(0), Kids: []api.Array{{}}}, false)
			for kids := range 10 {
				holdAt(t, x, at, api.Array{Kids: make([]api.Array, kids)}, false)
			}
			for _, s := range shapes() {
				holdAt(t, x, at, s.of(1, 2), false)
			}
		}
	}
}

func TestNoNode(t *testing.T) {
	for _, s := range shapes() {
		for _, x := range []api.Type{tree(s.kind, true), moved(tree(s.kind, false), list(-1)), moved(tree(s.kind, true), row(-1), leaf(0, 0), leaf(1, 0))} {
			a, n := s.of(1, 2), len(x.Nodes)
			for _, at := range []int{least, least + 1, -1 << 32, -n, -3, -2, -1, n, n + 1, 2 * n, api.MaxNodes, 256, 1 << 31, 1 << 32, greatest - 1, greatest} {
				if at < 0 || at >= n {
					holdAt(t, x, at, a, false)
					holdAt(t, x, at, api.Array{}, false)
				}
			}
		}
	}
}

// Of a type's nodes the one that is asked about counts, and no other.
func TestWhichNode(t *testing.T) {
	x := typeOf(row(-1), list(0), leaf(0, 0), row(0), leaf(2, 1), leaf(1, 3), leaf(0, 3), null(leaf(1, 0)))
	ints, bools, bytes := plainOf(0, 1, 2), plainOf(1, 1, 2), plainOf(2, 1, 2)
	lists := api.Array{Length: 2, Ends: fours(0, 1, 2), Kids: []api.Array{bytes}}
	pairs := api.Array{Length: 2, Kids: []api.Array{bools, ints}}
	lacks := with(bools, func(a *api.Array) { a.Valid = "\x01" })
	rows := api.Array{Length: 2, Kids: []api.Array{lists, ints, pairs, lacks}}
	for i, a := range []api.Array{rows, lists, ints, pairs, bytes, bools, ints, lacks} {
		for at := range x.Nodes {
			want := at == i || at == 5 && i == 5 || at == 7 && i == 5 || at == 2 && i == 6 || at == 6 && i == 2
			// Whole numbers have bytes enough for truths.
			want = want || (at == 5 || at == 7) && (i == 2 || i == 6)
			holdAt(t, x, at, a, want)
		}
	}
	holdAt(t, x, 0, with(rows, func(a *api.Array) { a.Kids[0], a.Kids[2] = pairs, lists }), false)
	holdAt(t, x, 0, with(rows, func(a *api.Array) { a.Kids[2] = with(pairs, func(a *api.Array) { slices.Reverse(a.Kids) }) }), false)
	holdAt(t, x, 0, with(rows, func(a *api.Array) { a.Kids[0] = with(lists, func(a *api.Array) { a.Kids[0] = ints }) }), false)
}

func TestNoLayout(t *testing.T) {
	for _, s := range shapes() {
		for _, layout := range []int{least, -1 << 32, -2, -1, 3, 4, 7, 255, 256, 257, 1 << 32, 1<<32 + 1, greatest} {
			for n := range 3 {
				a := s.of(0, n)
				a.Layout = layout
				hold(t, tree(s.kind, false), a, false)
			}
			hold(t, tree(s.kind, false), api.Array{Layout: layout}, false)
		}
		// Not in another one than it was laid down in.
		for layout := range 3 {
			a := s.of(1, 2)
			a.Layout = layout
			hold(t, tree(s.kind, false), a, layout == s.layout)
		}
	}
}

func TestHowMuchData(t *testing.T) {
	for _, s := range shapes() {
		for n := range api.MaxRows + 1 {
			for _, offset := range parted(n) {
				a := s.of(offset, n-offset)
				if s.kind < api.KindList {
					hold(t, tree(s.kind, false), with(a, func(a *api.Array) { a.Data += "\xff" }), s.layout != api.LayoutRun)
					hold(t, tree(s.kind, false), with(a, func(a *api.Array) { a.Data += "\xff\xff\xff\xff" }), s.layout != api.LayoutRun)
				}
				if len(a.Data) > 0 {
					hold(t, tree(s.kind, false), with(a, func(a *api.Array) { a.Data = a.Data[:len(a.Data)-1] }), false)
					hold(t, tree(s.kind, false), with(a, func(a *api.Array) { a.Data = "" }), false)
				}
			}
		}
	}
}

func TestHowManyEnds(t *testing.T) {
	for _, kind := range []int{api.KindBytes, api.KindList} {
		for n := range api.MaxRows + 1 {
			for _, offset := range parted(n) {
				a := plainOf(kind, offset, n-offset)
				for _, cut := range []int{1, 2, 3, 4} {
					hold(t, tree(kind, false), with(a, func(a *api.Array) { a.Ends = a.Ends[:len(a.Ends)-cut] }), false)
				}
				hold(t, tree(kind, false), with(a, func(a *api.Array) { a.Ends = "" }), false)
				// What stands behind those of the rows is of no weight: no number, one that falls, one beyond the end.
				for _, more := range []string{"\xff", "\x00\x00\x00", fours(0), fours(1 << 31), fours(5000), fours(api.Most, 0)} {
					hold(t, tree(kind, false), with(a, func(a *api.Array) { a.Ends += more }), true)
				}
			}
		}
	}
}

// ended is an array of bytes, or of lists, with these ends, and with so many bytes, or with a kid of that Length.
func ended(kind int, offset int, size int, ends ...uint32) api.Array {
	a := api.Array{Offset: offset, Length: len(ends) - 1 - offset, Ends: fours(ends...)}
	if kind == api.KindBytes {
		a.Data = some(size)
	} else {
		a.Kids = []api.Array{plainOf(api.KindBool, 3, size)}
	}
	return a
}

func TestEndsThatMayBe(t *testing.T) {
	for _, c := range []struct {
		size int
		ends []uint32
		want bool
	}{
		{0, []uint32{0}, true}, {0, []uint32{1}, false}, {5, []uint32{5}, true}, {5, []uint32{6}, false}, {5, []uint32{0}, true},
		{5, []uint32{0, 5}, true}, {5, []uint32{0, 6}, false}, {5, []uint32{0, 4}, true}, {4, []uint32{5, 5}, false}, {5, []uint32{5, 5}, true},
		{9, []uint32{2, 3, 9}, true}, {9, []uint32{2, 3, 10}, false}, {9, []uint32{9, 9, 9}, true}, {9, []uint32{0, 0, 0}, true}, {9, []uint32{3, 3, 4}, true}, {9, []uint32{3, 4, 4}, true},
		{9, []uint32{3, 2, 9}, false}, {9, []uint32{2, 9, 8}, false}, {9, []uint32{1, 0}, false}, {9, []uint32{1, 0, 1}, false}, {9, []uint32{0, 1, 0}, false}, {9, []uint32{9, 0, 9}, false},
		{9, []uint32{0, 10, 9}, false}, {9, []uint32{10, 9, 9}, false},
		// None is above Most.
		{9, []uint32{1 << 31}, false}, {9, []uint32{math.MaxUint32}, false}, {9, []uint32{math.MaxUint32, 9}, false}, {9, []uint32{1 << 31, 9}, false}, {9, []uint32{0, 1 << 31}, false}, {9, []uint32{0, math.MaxUint32, 9}, false}, {9, []uint32{0, api.Most}, false}, {9, []uint32{api.Most, api.Most}, false}, {9, []uint32{api.Most, 9}, false}, {9, []uint32{1 << 8}, false}, {9, []uint32{1 << 16}, false}, {9, []uint32{1 << 24}, false},
	} {
		for _, kind := range []int{api.KindBytes, api.KindList} {
			for offset := range c.ends {
				hold(t, tree(kind, false), ended(kind, offset, c.size, c.ends...), c.want)
			}
		}
	}
}

// One end that falls, wherever it stands.
func TestOneEndFalls(t *testing.T) {
	for _, kind := range []int{api.KindBytes, api.KindList} {
		for at := range 61 {
			ends := upTo(60, 1)
			ends[at] += 2
			for _, offset := range parted(60) {
				hold(t, tree(kind, false), ended(kind, offset, 61, ends...), false)
			}
			ends[at]--
			hold(t, tree(kind, false), ended(kind, at, 61, ends...), true)
		}
	}
}

func TestHowManyBytesARow(t *testing.T) {
	for _, apart := range []uint32{0, 1, 15, 16, 17, 18, 32, 1000, 4096} {
		for at := range 8 {
			ends := upTo(8, 1)
			for i := at + 1; i < len(ends); i++ {
				ends[i] = ends[i] - 1 + apart
			}
			size := int(ends[8])
			if size > api.MaxBuffer {
				continue
			}
			for offset := range 9 {
				a := ended(api.KindBytes, offset, size, ends...)
				hold(t, tree(api.KindBytes, false), a, apart <= api.MaxBytes || at < offset)
				// Nothing may have no more of them than what is there.
				a.Valid = "\x00"
				hold(t, tree(api.KindBytes, true), a, apart <= api.MaxBytes || at < offset)
			}
		}
	}
	hold(t, tree(api.KindBytes, false), ended(api.KindBytes, 0, 4096, 4080, 4096), true)
	hold(t, tree(api.KindBytes, false), ended(api.KindBytes, 0, 4096, 4079, 4096), false)
	hold(t, tree(api.KindBytes, false), ended(api.KindBytes, 1, 4096, 0, 4080, 4096), true)
	// A list's rows may have as many as its kid has.
	for size := range api.MaxRows - 2 {
		hold(t, tree(api.KindList, false), ended(api.KindList, 0, size, 0, uint32(size)), true)
		hold(t, tree(api.KindList, false), ended(api.KindList, 0, size, 0, uint32(size+1)), false)
	}
}

// A list's ends count its kid's rows, not those ahead of them.
func TestListsOfAKidsRows(t *testing.T) {
	for offset := range 20 {
		for length := range 20 {
			for last := range uint32(25) {
				a := api.Array{Length: 1, Ends: fours(0, last), Kids: []api.Array{plainOf(api.KindBool, offset, length)}}
				hold(t, tree(api.KindList, false), a, int(last) <= length)
			}
		}
	}
}

func TestKidsOfAList(t *testing.T) {
	x, a := tree(api.KindList, false), plainOf(api.KindList, 1, 2)
	kid := a.Kids[0]
	for _, n := range []int{0, 2, 3, 8, 100, 1 << 16} {
		hold(t, x, with(a, func(a *api.Array) { a.Kids = slices.Repeat([]api.Array{kid}, n) }), false)
	}
	for _, other := range spoiled(kid) {
		hold(t, x, with(a, func(a *api.Array) { a.Kids[0] = other }), false)
	}
	hold(t, x, with(a, func(a *api.Array) { a.Kids[0] = dictOf(api.KindBool, 2, 3) }), true)
	hold(t, x, with(a, func(a *api.Array) { a.Kids[0] = runOf(api.KindBool, 2, 3) }), true)
	hold(t, x, with(a, func(a *api.Array) { a.Kids[0] = plainOf(api.KindBytes, 0, 3) }), false)
}

// spoiled are arrays that may not be, each made of one of truths.
func spoiled(a api.Array) []api.Array {
	return []api.Array{
		with(a, func(a *api.Array) { a.Offset = -1 }), with(a, func(a *api.Array) { a.Length = -1 }), with(a, func(a *api.Array) { a.Length, a.Data = 65, some(9) }), with(a, func(a *api.Array) { a.Length = greatest }),
		with(a, func(a *api.Array) { a.Data = "" }), with(a, func(a *api.Array) { a.Data = some(4097) }), with(a, func(a *api.Array) { a.Ends = fours(0) }), with(a, func(a *api.Array) { a.Valid = "\xff" }),
		with(a, func(a *api.Array) { a.Kids = []api.Array{{}} }), with(a, func(a *api.Array) { a.Layout = 3 }), with(a, func(a *api.Array) { a.Layout = api.LayoutDict }), with(a, func(a *api.Array) { a.Layout = api.LayoutRun }),
	}
}

func TestKidsOfAStruct(t *testing.T) {
	x := tree(api.KindStruct, false)
	for n := range api.MaxRows + 1 {
		for _, offset := range parted(n) {
			a := plainOf(api.KindStruct, offset, n-offset)
			for i, kind := range []int{api.KindInt, api.KindBool} {
				turned := func(kid api.Array) api.Array { return with(a, func(a *api.Array) { a.Kids[i] = kid }) }
				// A kid's own Offset counts nothing: its Length is held against all rows, those ahead with them.
				if n > 0 {
					hold(t, x, turned(plainOf(kind, 0, n-1)), false)
					hold(t, x, turned(plainOf(kind, 1, n-1)), false)
				}
				if n < api.MaxRows {
					hold(t, x, turned(plainOf(kind, 0, n+1)), true)
					hold(t, x, turned(plainOf(kind, 1, n)), true)
					hold(t, x, turned(dictOf(kind, 1, n)), true)
				}
				hold(t, x, turned(runOf(kind, 0, n)), true)
			}
		}
	}
	a := plainOf(api.KindStruct, 1, 2)
	for _, other := range spoiled(a.Kids[1]) {
		hold(t, x, with(a, func(a *api.Array) { a.Kids[1] = other }), false)
		hold(t, x, with(a, func(a *api.Array) { a.Kids[0] = other }), false)
	}
	for n := range 10 {
		hold(t, x, with(a, func(a *api.Array) { a.Kids = slices.Repeat(a.Kids, 5)[:n] }), n == 2)
		hold(t, x, api.Array{Kids: make([]api.Array, n)}, n == 2)
	}
	hold(t, x, with(a, func(a *api.Array) { a.Kids = make([]api.Array, 1<<16) }), false)
	hold(t, x, with(a, func(a *api.Array) { a.Kids[0], a.Kids[1] = a.Kids[1], a.Kids[0] }), false)
	wide := typeOf(row(-1), leaf(1, 0), leaf(1, 0), leaf(1, 0), leaf(1, 0), leaf(1, 0), leaf(1, 0), leaf(1, 0))
	for n := range 12 {
		holdAt(t, wide, 0, api.Array{Length: 2, Kids: slices.Repeat([]api.Array{plainOf(1, 0, 2)}, n)}, n == 7)
	}
	for i := range 7 {
		kids := slices.Repeat([]api.Array{plainOf(1, 0, 2)}, 7)
		kids[i] = plainOf(1, 0, 1)
		holdAt(t, wide, 0, api.Array{Length: 2, Kids: kids}, false)
		kids[i] = with(plainOf(1, 0, 2), func(a *api.Array) { a.Data = "" })
		holdAt(t, wide, 0, api.Array{Length: 2, Kids: kids}, false)
	}
}

func TestWhatIsNotUsed(t *testing.T) {
	for _, s := range shapes() {
		for _, n := range []int{0, 1, 3} {
			a, x := s.of(0, n), tree(s.kind, true)
			for _, text := range []string{"\x00", fours(0), fours(0, 0, 0, 0), some(100)} {
				if s.layout != api.LayoutPlain || s.kind != api.KindBytes && s.kind != api.KindList {
					hold(t, x, with(a, func(a *api.Array) { a.Ends = text }), false)
				}
				if s.kind >= api.KindList {
					hold(t, x, with(a, func(a *api.Array) { a.Data = text }), false)
				}
				if s.layout == api.LayoutRun {
					hold(t, x, with(a, func(a *api.Array) { a.Valid = text }), false)
				}
			}
			if s.layout == api.LayoutPlain && s.kind < api.KindList {
				hold(t, x, with(a, func(a *api.Array) { a.Kids = []api.Array{} }), true)
				for _, kids := range [][]api.Array{{{}}, {a}, {{}, {}}, {plainOf(s.kind, 0, 64)}, make([]api.Array, 1000)} {
					hold(t, x, with(a, func(a *api.Array) { a.Kids = kids }), false)
				}
			}
		}
	}
}

// A list and a struct are plain, whatever else is so.
func TestNestsArePlain(t *testing.T) {
	for _, kind := range []int{api.KindList, api.KindStruct} {
		x := tree(kind, true)
		for n := range 4 {
			hold(t, x, dictOf(kind, 0, n), false)
			hold(t, x, runOf(kind, 0, n), false)
			kid := plainOf(kind, 0, n)
			hold(t, x, kid, true)
			for _, layout := range []int{api.LayoutDict, api.LayoutRun} {
				hold(t, x, api.Array{Layout: layout, Kids: []api.Array{kid}}, false)
				hold(t, x, api.Array{Layout: layout, Kids: kid.Kids}, false)
				hold(t, x, with(kid, func(a *api.Array) { a.Layout = layout }), false)
				hold(t, x, api.Array{Layout: layout}, false)
			}
		}
	}
}

// Both layouts that stand on another array: just one, a plain one, which may be.
func TestKidsOfLeaves(t *testing.T) {
	for _, s := range shapes() {
		if s.layout == api.LayoutPlain {
			continue
		}
		for _, n := range []int{0, 1, 5} {
			a := s.of(0, n)
			kid := a.Kids[0]
			for _, may := range []bool{false, true} {
				x := tree(s.kind, may)
				for _, kids := range [][]api.Array{nil, {}, {kid, kid}, {kid, {}}, slices.Repeat([]api.Array{kid}, 1000)} {
					hold(t, x, with(a, func(a *api.Array) { a.Kids = kids }), false)
				}
				for _, other := range []api.Array{
					with(kid, func(a *api.Array) { a.Layout = api.LayoutDict }), with(kid, func(a *api.Array) { a.Layout = api.LayoutRun }), with(kid, func(a *api.Array) { a.Layout = 3 }), with(kid, func(a *api.Array) { a.Layout = -1 }),
					dictOf(s.kind, 0, kid.Length), runOf(s.kind, 0, kid.Length),
					with(kid, func(a *api.Array) { a.Offset = -1 }), with(kid, func(a *api.Array) { a.Offset = 65 - a.Length }), with(kid, func(a *api.Array) { a.Offset = greatest }),
					with(kid, func(a *api.Array) { a.Length = -1 }), with(kid, func(a *api.Array) { a.Kids = []api.Array{{}} }), with(kid, func(a *api.Array) { a.Data = some(4097) }),
					with(kid, func(a *api.Array) { a.Data, a.Ends = "", "" }),
				} {
					hold(t, x, with(a, func(a *api.Array) { a.Kids[0] = other }), false)
				}
			}
		}
	}
}

// A dictionary lacks nothing and says so by an empty Valid; what a run repeats may be nothing.
func TestValidOfAKid(t *testing.T) {
	for _, s := range shapes() {
		if s.layout == api.LayoutPlain {
			continue
		}
		for _, n := range []int{0, 1, 5} {
			for _, valid := range []string{"\x00", "\x02", "\xff", "\xff\xff"} {
				a := with(s.of(0, n), func(a *api.Array) { a.Kids[0].Valid = valid })
				hold(t, tree(s.kind, true), a, s.layout == api.LayoutRun)
				hold(t, tree(s.kind, false), a, false)
			}
		}
	}
	many := with(runOf(api.KindBool, 0, 17), func(a *api.Array) { a.Kids[0].Valid = "\xff\x00" })
	hold(t, tree(api.KindBool, true), many, true)
	many.Kids[0].Valid = "\xff"
	hold(t, tree(api.KindBool, true), many, false)
}

func TestNumbersOfADictionary(t *testing.T) {
	for kind := api.KindInt; kind <= api.KindBytes; kind++ {
		for _, length := range []int{0, 1, 2, 3, 9, 63} {
			for _, x := range []uint32{0, 1, 2, 3, 4, 8, 9, 10, 62, 63, 64, 256, 1 << 16, 1 << 24, api.Most, 1 << 31, 1<<31 + 1, math.MaxUint32} {
				holdNumber(t, kind, length, x)
			}
		}
	}
}

// holdNumber holds a number of one row against a dictionary of so many: at each row, for each Offset, there or not.
func holdNumber(t *testing.T, kind int, length int, x uint32) {
	t.Helper()
	const n = 10
	for at := range n {
		numbers := make([]uint32, n)
		numbers[at] = x
		for offset := range n + 1 {
			a := api.Array{Layout: api.LayoutDict, Offset: offset, Length: n - offset, Data: fours(numbers...), Kids: []api.Array{plainOf(kind, 1, length)}}
			// The other rows have number 0, which only an empty dictionary lacks.
			others := length > 0 || offset == n || offset == n-1 && at == offset
			below := int64(x) < int64(length) || at < offset
			hold(t, tree(kind, false), a, others && below)
			a.Valid = some(2)
			hold(t, tree(kind, true), a, others && below)
			only := []byte{0, 0}
			only[at/8] |= 1 << (at % 8)
			a.Valid = string(only)
			hold(t, tree(kind, true), a, below)
			a.Valid = string([]byte{^only[0], ^only[1]})
			hold(t, tree(kind, true), a, others || offset == n)
			a.Valid = "\x00\x00"
			hold(t, tree(kind, true), a, true)
		}
	}
}

func TestNumbersBehindTheRows(t *testing.T) {
	a := dictOf(api.KindInt, 2, 3)
	for _, more := range []string{fours(3), fours(math.MaxUint32), "\xff"} {
		hold(t, tree(api.KindInt, false), with(a, func(a *api.Array) { a.Data += more }), true)
	}
	a.Length--
	a.Data = a.Data[:16] + fours(9)
	hold(t, tree(api.KindInt, false), a, true)
	a.Length++
	hold(t, tree(api.KindInt, false), a, false)
}

func TestEndsOfRuns(t *testing.T) {
	for _, c := range []struct {
		n    int
		ends []uint32
		want bool
	}{
		{0, nil, true}, {1, nil, false}, {64, nil, false},
		{0, []uint32{0}, false}, {0, []uint32{1}, true}, {1, []uint32{1}, true}, {1, []uint32{0}, false}, {1, []uint32{2}, true}, {2, []uint32{1}, false},
		{5, []uint32{5}, true}, {5, []uint32{4}, false}, {5, []uint32{6}, true}, {5, []uint32{1000}, true}, {5, []uint32{api.Most}, true}, {5, []uint32{1 << 31}, false}, {5, []uint32{math.MaxUint32}, false},
		{5, []uint32{2, 5}, true}, {5, []uint32{1, 5}, true}, {5, []uint32{0, 5}, false}, {5, []uint32{2, 4}, false}, {5, []uint32{4, 5}, true}, {5, []uint32{5, 5}, false}, {5, []uint32{6, 5}, false}, {5, []uint32{2, 9}, true}, {5, []uint32{5, 6}, true}, {5, []uint32{7, 9}, true},
		{5, []uint32{1, 2, 5}, true}, {5, []uint32{2, 2, 5}, false}, {5, []uint32{2, 5, 5}, false}, {5, []uint32{2, 1, 5}, false}, {5, []uint32{1, 6, 5}, false}, {5, []uint32{2, 5, 4}, false}, {5, []uint32{1, 2, 4}, false}, {5, []uint32{0, 1, 5}, false}, {0, []uint32{0, 1, 5}, false}, {0, []uint32{1, 2, 3}, true},
		{5, []uint32{1 << 31, 5}, false}, {5, []uint32{math.MaxUint32, 5}, false}, {5, []uint32{2, 1 << 31}, false}, {5, []uint32{api.Most, 5}, false}, {5, []uint32{1, api.Most}, true}, {5, []uint32{1, api.Most, 1 << 31}, false},
		{5, []uint32{256, 257}, true}, {5, []uint32{256, 255}, false}, {5, []uint32{1 << 16, 255}, false}, {5, []uint32{1 << 24, 1 << 16}, false},
		{63, upTo(63, 1)[1:], true}, {64, upTo(63, 1)[1:], false}, {64, append(upTo(62, 1)[1:], 64), true},
	} {
		for kind := api.KindInt; kind <= api.KindBytes; kind++ {
			for _, offset := range parted(c.n) {
				a := api.Array{Layout: api.LayoutRun, Offset: offset, Length: c.n - offset, Data: fours(c.ends...), Kids: []api.Array{plainOf(kind, 1, len(c.ends))}}
				hold(t, tree(kind, false), a, c.want)
				hold(t, tree(kind, true), a, c.want)
			}
		}
	}
}

// Data has four bytes of each row that the kid tells of by its Length, whatever stands ahead of its Offset.
func TestDataOfRuns(t *testing.T) {
	for offset := range 6 {
		for length := range 6 {
			for size := range 26 {
				a := api.Array{Layout: api.LayoutRun, Data: fours(1, 2, 3, 4, 5, 6, 7)[:size], Kids: []api.Array{plainOf(api.KindInt, offset, length)}}
				hold(t, tree(api.KindInt, false), a, size == 4*length)
			}
		}
	}
}

// As deep as types go.
func TestHowDeep(t *testing.T) {
	x := typeOf(list(-1), null(row(0)), list(1), null(list(2)), null(leaf(api.KindBytes, 3)), leaf(api.KindInt, 1))
	made := func(last api.Array) api.Array {
		inner := api.Array{Length: 2, Valid: "\x01", Ends: fours(0, 1, 2), Kids: []api.Array{last}}
		mid := api.Array{Offset: 1, Length: 2, Ends: fours(0, 0, 1, 2), Kids: []api.Array{inner}}
		rows := api.Array{Length: 2, Valid: "\x02", Kids: []api.Array{mid, runOf(api.KindInt, 0, 2)}}
		return api.Array{Length: 1, Ends: fours(0, 2), Kids: []api.Array{rows}}
	}
	last := plainOf(api.KindBytes, 3, 2)
	last.Valid = "\x15"
	holdAt(t, x, 0, made(last), true)
	for _, at := range []int{1, 2, 3, 4, 5} {
		holdAt(t, x, at, made(last), false)
	}
	holdAt(t, x, 0, made(dictOf(api.KindBytes, 3, 2)), true)
	holdAt(t, x, 0, made(runOf(api.KindBytes, 3, 2)), true)
	for _, turn := range []func(a *api.Array){
		func(a *api.Array) { a.Length = 1 }, func(a *api.Array) { a.Ends = a.Ends[1:] }, func(a *api.Array) { a.Data = a.Data[1:] },
		func(a *api.Array) { a.Layout = 4 }, func(a *api.Array) { a.Kids = []api.Array{{}} }, func(a *api.Array) { a.Offset = 63 },
	} {
		holdAt(t, x, 0, made(with(last, turn)), false)
	}
	x.Nodes[4].Null = false
	holdAt(t, x, 0, made(last), false)
}

// R1: kids that stand within themselves have an end where the type has one.
func TestKidsWithinThemselves(t *testing.T) {
	for _, s := range shapes() {
		for n := 1; n < 3; n++ {
			kids := make([]api.Array, n)
			for i := range kids {
				kids[i] = s.of(0, 1)
				kids[i].Kids = kids
			}
			for layout := range 3 {
				for i := range kids {
					kids[i].Layout = layout
				}
				for _, x := range []api.Type{tree(s.kind, true), typeOf(list(-1), list(0), list(1), list(2), leaf(s.kind%3, 3)), typeOf(row(-1), row(0), row(1), row(2), leaf(s.kind%3, 3))} {
					for at := range x.Nodes {
						holdEnds(t, x, at, kids[0])
					}
				}
			}
		}
	}
}

// holdEnds holds that what stands within itself may not be, as a leaf below it cannot have its kids; no fault is told by the array, which has no end.
func holdEnds(t *testing.T, x api.Type, at int, a api.Array) {
	t.Helper()
	if May(x, at, a) {
		t.Errorf("P8.1: at node %d of %v: what stands within itself may be", at, x)
	}
}

// deep copies all of an array, its lists' spare room too.
func deep(a api.Array) api.Array {
	if a.Kids == nil {
		return a
	}
	kids := make([]api.Array, cap(a.Kids))
	for i, kid := range a.Kids[:cap(a.Kids)] {
		kids[i] = deep(kid)
	}
	a.Kids = kids[:len(a.Kids)]
	return a
}

// roomy gives all lists within an array spare room, with something in it.
func roomy(a api.Array) api.Array {
	kids := []api.Array{}
	for _, kid := range a.Kids {
		kids = append(kids, roomy(kid))
	}
	n := len(kids)
	a.Kids = append(kids, api.Array{Layout: 7, Offset: -3, Length: 99, Valid: "v", Ends: "e", Data: "d"}, api.Array{Data: "x", Kids: []api.Array{{Length: 5}}})[:n]
	return a
}

// whole gives an array with all that its lists have room for, so that two can be held against each other.
func whole(a api.Array) api.Array {
	a = deep(a)
	a.Kids = a.Kids[:cap(a.Kids)]
	for i := range a.Kids {
		a.Kids[i] = whole(a.Kids[i])
	}
	return a
}

// R4: what was handed in reads as it did, with all that lies within it, the lists' spare room too.
func TestHandedInStays(t *testing.T) {
	for _, s := range shapes() {
		for _, turn := range []func(a *api.Array){func(*api.Array) {}, func(a *api.Array) { a.Length++ }, func(a *api.Array) { a.Valid = "\xff\xff" }, func(a *api.Array) { a.Layout++ }} {
			x := typeOf(append(moved(tree(s.kind, true), list(-1)).Nodes, leaf(9, 9), leaf(8, 8))...)
			x.Nodes = x.Nodes[:len(x.Nodes)-2]
			nodes := slices.Clone(x.Nodes[:cap(x.Nodes)])
			inner := with(s.of(2, 6), turn)
			a := roomy(api.Array{Length: 1, Ends: fours(0, 6), Kids: []api.Array{inner}})
			was := whole(a)
			first := May(x, 0, a)
			May(x, 1, a.Kids[0])
			if again := May(x, 0, a); again != first {
				t.Errorf("R5: %v, then %v", first, again)
			}
			if !slices.Equal(nodes, x.Nodes[:cap(x.Nodes)]) {
				t.Errorf("R4: the type was changed: %v", x.Nodes[:cap(x.Nodes)])
			}
			if !reflect.DeepEqual(was, whole(a)) {
				t.Errorf("R4: the array was changed: %s", told(whole(a)))
			}
		}
	}
}

// R5: from several goroutines at one time.
func TestAtOneTime(t *testing.T) {
	x, a := tree(api.KindStruct, true), plainOf(api.KindStruct, 3, 20)
	a.Kids[0] = dictOf(api.KindInt, 1, 23)
	wrong := with(a, func(a *api.Array) { a.Kids[1].Data = "\xff" })
	var wait sync.WaitGroup
	for range 8 {
		wait.Go(func() {
			for range 200 {
				holdAt(t, x, 0, a, true)
				holdAt(t, x, 0, wrong, false)
			}
		})
	}
	wait.Wait()
}
