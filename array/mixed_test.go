package array

import (
	"encoding/binary"
	"slices"
	"strings"
	"testing"

	"quiver/api"
)

// rnd is a row of numbers that look like chance.
type rnd uint64

func (r *rnd) next(n int) int {
	*r = *r*6364136223846793005 + 1442695040888963407
	return int(uint64(*r) >> 33 % uint64(n))
}

// bytes are so many, by chance.
func (r *rnd) bytes(n int) string {
	out := make([]byte, n)
	for i := range out {
		out[i] = byte(r.next(256))
	}
	return string(out)
}

// rising are count numbers from from on, each at least by and at most by+step above the one ahead of it.
func (r *rnd) rising(count int, from int, by int, step int) []uint32 {
	xs := []uint32{uint32(from)}
	for len(xs) < count {
		from += by + r.next(step+1)
		xs = append(xs, uint32(from))
	}
	return xs
}

// below are a node's kids.
func below(nodes []api.Node, at int) []int {
	var kids []int
	for i, n := range nodes {
		if n.Parent == at {
			kids = append(kids, i)
		}
	}
	return kids
}

// read tells all numbers of four bytes in a text, as they stand there.
func read(s string) []int64 {
	var xs []int64
	for b := []byte(s); len(b) >= 4; b = b[4:] {
		xs = append(xs, int64(binary.LittleEndian.Uint32(b)))
	}
	return xs
}

// wrong tells by which words of the chapter an array may not be; "", if it may. The type may be.
func wrong(nodes []api.Node, at int, a api.Array) string {
	n := a.Offset + a.Length
	switch {
	case a.Offset < 0:
		return "Offset from 0 on"
	case a.Length < 0:
		return "Length from 0 on"
	case n > 64:
		return "both together at most MaxRows"
	case max(len(a.Valid), len(a.Ends), len(a.Data)) > 4096:
		return "all texts of at most MaxBuffer bytes"
	case a.Valid != "" && !nodes[at].Null:
		return "Valid: a node that is Null"
	case a.Valid != "" && 8*len(a.Valid) < n:
		return "Valid: as many bytes as n bits need"
	}
	switch a.Layout {
	case 0:
		return wrongPlain(nodes, at, a, n)
	case 1, 2:
		return wrongOther(nodes, at, a, n)
	}
	return "its Layout"
}

func wrongPlain(nodes []api.Node, at int, a api.Array, n int) string {
	kind := nodes[at].Kind
	switch {
	case kind != api.KindBytes && kind != api.KindList && a.Ends != "":
		return "plain: Ends not used"
	case kind > api.KindBytes && a.Data != "":
		return "plain: Data not used"
	case len(a.Kids) != len(below(nodes, at)):
		return "plain: as many Kids"
	case kind == api.KindInt && len(a.Data) < 8*n:
		return "plain: 8 n bytes"
	case kind == api.KindBool && 8*len(a.Data) < n:
		return "plain: n bits"
	}
	for i, kid := range a.Kids {
		if w := wrong(nodes, below(nodes, at)[i], kid); w != "" {
			return w
		}
		if kind == api.KindStruct && kid.Length < n {
			return "plain: a kid's Length at least n"
		}
	}
	switch kind {
	case api.KindBytes:
		return wrongEnds(a, n, len(a.Data), 16)
	case api.KindList:
		return wrongEnds(a, n, a.Kids[0].Length, 4096)
	}
	return ""
}

func wrongEnds(a api.Array, n int, most int, apart int64) string {
	ends := read(a.Ends)
	if len(ends) < n+1 {
		return "ends: 4 (n and 1) bytes"
	}
	for i, x := range ends[:n+1] {
		switch {
		case x > 1<<31-1:
			return "ends: numbers"
		case i > 0 && x < ends[i-1]:
			return "ends: that do not fall"
		case i > a.Offset && x-ends[i-1] > apart:
			return "ends: MaxBytes apart"
		}
	}
	if ends[n] > int64(most) {
		return "ends: the last one"
	}
	return ""
}

func wrongOther(nodes []api.Node, at int, a api.Array, n int) string {
	switch {
	case nodes[at].Kind > api.KindBytes:
		return "other: no list, no struct"
	case a.Ends != "":
		return "other: Ends nothing"
	case len(a.Kids) != 1:
		return "other: one of Kids"
	case a.Kids[0].Layout != 0:
		return "other: LayoutPlain"
	}
	if w := wrong(nodes, at, a.Kids[0]); w != "" {
		return w
	}
	if a.Layout == 1 {
		return wrongDict(a, n)
	}
	return wrongRun(a, n)
}

func wrongDict(a api.Array, n int) string {
	if a.Kids[0].Valid != "" {
		return "dict: its Valid empty"
	}
	if len(a.Data) < 4*n {
		return "dict: 4 n bytes"
	}
	for i, x := range read(a.Data)[:n] {
		lacks := a.Valid != "" && a.Valid[i/8]&(1<<(i%8)) == 0
		if i >= a.Offset && !lacks && x >= int64(a.Kids[0].Length) {
			return "dict: below that one's Length"
		}
	}
	return ""
}

func wrongRun(a api.Array, n int) string {
	if a.Valid != "" {
		return "run: Valid nothing"
	}
	if len(a.Data) != 4*a.Kids[0].Length {
		return "run: just 4 bytes a row"
	}
	last := int64(0)
	for _, x := range read(a.Data) {
		if x <= last || x > 1<<31-1 {
			return "run: numbers that rise"
		}
		last = x
	}
	if last < int64(n) {
		return "run: the last one at least n"
	}
	return ""
}

// anyType is a type, by chance: what may have kids has one.
func anyType(r *rnd) api.Type {
	var nodes []api.Node
	var add func(parent int, depth int)
	add = func(parent int, depth int) {
		n := api.Node{Kind: r.next(5), Parent: parent, Null: r.next(2) == 0}
		if depth == api.MaxDepth || len(nodes) >= 4 {
			n.Kind = r.next(3)
		}
		at := len(nodes)
		nodes = append(nodes, n)
		for kids := 0; n.Kind >= api.KindList && kids == 0 || n.Kind == api.KindStruct && len(nodes) < 4 && r.next(2) == 0; kids++ {
			add(at, depth+1)
		}
	}
	add(-1, 0)
	return typeOf(nodes...)
}

// anyArray is an array of a node that may be, by chance, with length rows.
func anyArray(r *rnd, nodes []api.Node, at int, length int) api.Array {
	a := api.Array{Offset: r.next(min(3, 65-length)), Length: length}
	n := a.Offset + length
	if nodes[at].Kind < api.KindList {
		switch r.next(3) {
		case 0:
			return anyDict(r, nodes, at, a, n)
		case 1:
			return anyRun(r, nodes, at, a, n)
		}
	}
	return anyPlain(r, nodes, at, a, n)
}

// anyValid is a Valid for n rows of a node, by chance.
func anyValid(r *rnd, node api.Node, n int) string {
	if !node.Null || r.next(2) == 0 {
		return ""
	}
	return r.bytes((n+7)/8 + r.next(2))
}

func anyDict(r *rnd, nodes []api.Node, at int, a api.Array, n int) api.Array {
	a.Layout, a.Valid = api.LayoutDict, anyValid(r, nodes[at], n)
	size := 1 + r.next(5)
	for i := range n {
		switch {
		case i < a.Offset && r.next(2) == 0, a.Valid != "" && a.Valid[i/8]&(1<<(i%8)) == 0:
			a.Data += r.bytes(4)
		default:
			a.Data += fours(uint32(r.next(size)))
		}
	}
	kid := anyPlain(r, nodes, at, api.Array{Length: size}, size)
	kid.Valid = ""
	a.Data, a.Kids = a.Data+r.bytes(r.next(3)), []api.Array{kid}
	return a
}

func anyRun(r *rnd, nodes []api.Node, at int, a api.Array, n int) api.Array {
	a.Layout = api.LayoutRun
	last, size := 0, 0
	for last < n || r.next(4) == 0 {
		last += 1 + r.next(4)
		a.Data += fours(uint32(last))
		size++
	}
	a.Kids = []api.Array{anyPlain(r, nodes, at, api.Array{Length: size}, size)}
	return a
}

func anyPlain(r *rnd, nodes []api.Node, at int, a api.Array, n int) api.Array {
	a.Valid = anyValid(r, nodes[at], n)
	switch nodes[at].Kind {
	case api.KindInt:
		a.Data = r.bytes(8*n + r.next(3))
	case api.KindBool:
		a.Data = r.bytes((n+7)/8 + r.next(2))
	case api.KindBytes:
		ends := r.rising(n+1, r.next(3), 0, 16)
		a.Ends, a.Data = fours(ends...)+r.bytes(r.next(6)), r.bytes(int(ends[n])+r.next(2))
	case api.KindList:
		ends := r.rising(n+1, r.next(3), 0, 1)
		a.Ends = fours(ends...) + r.bytes(r.next(6))
		a.Kids = []api.Array{anyArray(r, nodes, below(nodes, at)[0], min(int(ends[n])+r.next(2), 64))}
	default:
		for _, kid := range below(nodes, at) {
			a.Kids = append(a.Kids, anyArray(r, nodes, kid, min(n+r.next(2), 64)))
		}
	}
	return a
}

// turned is an array with one thing in it, or in one below it, turned by chance.
func turned(r *rnd, a api.Array) api.Array {
	a.Kids = slices.Clone(a.Kids)
	if len(a.Kids) > 0 && r.next(2) == 0 {
		i := r.next(len(a.Kids))
		a.Kids[i] = turned(r, a.Kids[i])
		return a
	}
	text := []*string{&a.Valid, &a.Ends, &a.Data}[r.next(3)]
	switch r.next(12) {
	case 0:
		a.Offset += []int{-1, 1, 64 - a.Offset - a.Length, 65 - a.Offset - a.Length}[r.next(4)]
	case 1, 2:
		a.Length += []int{-1, 1, 2, 64 - a.Offset - a.Length, 65 - a.Offset - a.Length, -1 - a.Length}[r.next(6)]
	case 3:
		a.Layout = r.next(5) - 1
	case 4:
		*text = (*text)[:len(*text)-min(len(*text), 1+r.next(4))]
	case 5:
		*text += r.bytes(1 + r.next(9))
	case 6:
		*text += strings.Repeat("\x00", 4096+r.next(2)-len(*text))
	case 7:
		*text = ""
	case 8:
		a.Kids = append(a.Kids, api.Array{})
	case 9:
		a.Kids = a.Kids[:len(a.Kids)/2]
	default:
		turnNumber(r, text)
	}
	return a
}

// turnNumber turns one number of four bytes in a text.
func turnNumber(r *rnd, text *string) {
	if len(*text) < 4 {
		return
	}
	at := r.next(len(*text)/4) * 4
	x := binary.LittleEndian.Uint32([]byte((*text)[at:]))
	x += []uint32{1, ^uint32(0), 17, 1 << 31, ^uint32(16), 16}[r.next(6)]
	*text = (*text)[:at] + fours(x) + (*text)[at+4:]
}

// turnedType is a type with a node's Null turned, by chance.
func turnedType(r *rnd, x api.Type) api.Type {
	x.Nodes = slices.Clone(x.Nodes)
	at := r.next(len(x.Nodes))
	x.Nodes[at].Null = !x.Nodes[at].Null
	return x
}

func TestMixed(t *testing.T) {
	r := rnd(8)
	told := map[string]int{}
	for range 40000 {
		x := anyType(&r)
		at := r.next(len(x.Nodes))
		a := anyArray(&r, x.Nodes, at, r.next(12))
		// Lists within lists may have come to be more than may be.
		holdAt(t, x, at, a, wrong(x.Nodes, at, a) == "")
		for range 4 {
			other := turned(&r, a)
			if r.next(8) == 0 {
				x = turnedType(&r, x)
			}
			w := wrong(x.Nodes, at, other)
			holdAt(t, x, at, other, w == "")
			told[w]++
		}
	}
	for _, w := range []string{
		"", "Offset from 0 on", "Length from 0 on", "both together at most MaxRows", "all texts of at most MaxBuffer bytes", "Valid: a node that is Null", "Valid: as many bytes as n bits need", "its Layout",
		"plain: Ends not used", "plain: Data not used", "plain: as many Kids", "plain: 8 n bytes", "plain: n bits", "plain: a kid's Length at least n",
		"ends: 4 (n and 1) bytes", "ends: numbers", "ends: that do not fall", "ends: MaxBytes apart", "ends: the last one",
		"other: no list, no struct", "other: Ends nothing", "other: one of Kids", "other: LayoutPlain",
		"dict: its Valid empty", "dict: 4 n bytes", "dict: below that one's Length", "run: Valid nothing", "run: just 4 bytes a row", "run: numbers that rise", "run: the last one at least n",
	} {
		if told[w] < 100 {
			t.Errorf("P8.1: only %d were held of %q", told[w], w)
		}
		delete(told, w)
	}
	if len(told) > 0 {
		t.Errorf("P8.1: held, and not named: %v", told)
	}
}
