package slice

import (
	"reflect"
	"slices"
	"strings"
	"sync"
	"testing"
	"unsafe"

	"quiver/api"
)

// deep copies all of an array, its lists' spare room and its texts too.
func deep(a api.Array) api.Array {
	a.Valid, a.Ends, a.Data = strings.Clone(a.Valid), strings.Clone(a.Ends), strings.Clone(a.Data)
	if a.Kids == nil {
		return a
	}
	kids := make([]api.Array, cap(a.Kids))
	for i, kid := range a.Kids[:cap(a.Kids)] {
		kids[i] = deep(kid)
	}
	a.Kids = kids[:len(a.Kids)]
	return a
}

// whole gives an array with all that its lists have room for, so that two can be held against each other.
func whole(a api.Array) api.Array {
	a = deep(a)
	a.Kids = a.Kids[:cap(a.Kids)]
	for i := range a.Kids {
		a.Kids[i] = whole(a.Kids[i])
	}
	return a
}

// roomy gives all lists within an array spare room, with something in it.
func roomy(a api.Array) api.Array {
	kids := []api.Array{}
	for _, kid := range a.Kids {
		kids = append(kids, roomy(kid))
	}
	n := len(kids)
	a.Kids = append(kids, api.Array{Layout: 7, Offset: -3, Length: 99, Valid: "v", Ends: "e", Data: "d"}, api.Array{Data: "x", Kids: []api.Array{{Length: 5}}})[:n]
	return a
}

// mixed is a type with all kinds in it, and arrays of it, that may be and that may not.
func mixed() (api.Type, []api.Array) {
	x := typeOf(null(row(-1)), list(0), null(leaf(2, 1)), leaf(0, 0), null(leaf(1, 0)))
	many := lists(1, lacking(texts(1, "x", "abc", "0123456789abcdef", "", "y"), "\x2e"), 0, 0, 0, 2, 3, 4)
	ids, ons := dict(1, numbers(1, 0, 7, 8), 9, 1, 0, 1, 0), run(0, 4, lacking(truths(0, 2, "\x03"), "\x02"), 1, 5)
	a := lacking(structs(1, 3, many, ids, ons), "\x0a\xff")
	return x, []api.Array{a, lacking(a, ""), with(a, func(a *api.Array) { a.Kids[1].Data = fours(9, 1, 0, 2, 0) }), with(a, func(a *api.Array) { a.Length = 0 })}
}

// spans are ranges of three rows at most, and such as are none.
func spans() []span {
	return []span{{0, 3}, {0, 0}, {1, 1}, {2, 1}, {1, 2}, {3, 0}, {-1, 1}, {0, -1}, {3, 1}, {greatest, greatest}}
}

// R4: what was handed in reads as it did, with all that lies within it, the lists' spare room too; R5: what is told is so again.
func TestHandedInStays(t *testing.T) {
	x, as := mixed()
	x.Nodes = append(x.Nodes, leaf(9, 9), leaf(8, 8))[:len(x.Nodes)]
	nodes := slices.Clone(x.Nodes[:cap(x.Nodes)])
	for _, a := range as {
		a = roomy(a)
		was := whole(a)
		for _, r := range spans() {
			first, e := Slice(x, 0, a, r.from, r.count)
			Slice(x, 1, a.Kids[0], r.from, r.count)
			Slice(x, 1, a, r.from, r.count)
			if again, f := Slice(x, 0, a, r.from, r.count); !same(again, first) || f != e {
				t.Errorf("R5: %v of %s: %s, %d, then %s, %d", r, told(a), told(first), e, told(again), f)
			}
			if !slices.Equal(nodes, x.Nodes[:cap(x.Nodes)]) {
				t.Errorf("R4: %v: the type was changed: %v", r, x.Nodes[:cap(x.Nodes)])
			}
			if !reflect.DeepEqual(was, whole(a)) {
				t.Errorf("R4: %v: the array was changed: %s", r, told(whole(a)))
			}
		}
	}
}

// loose gives an array with texts that are bytes which can be written over, and what writes over all of it.
func loose(a api.Array) (api.Array, func()) {
	var over []func()
	for _, text := range []*string{&a.Valid, &a.Ends, &a.Data} {
		if *text == "" {
			continue
		}
		b := []byte(*text)
		*text = unsafe.String(&b[0], len(b))
		over = append(over, func() {
			for i := range b {
				b[i] = '#'
			}
		})
	}
	kids := make([]api.Array, len(a.Kids))
	for i, kid := range a.Kids {
		var turn func()
		kids[i], turn = loose(kid)
		over = append(over, turn, func() { kids[i] = api.Array{Length: 3, Data: "over"} })
	}
	a.Kids = kids
	return a, func() {
		for _, turn := range over {
			turn()
		}
	}
}

// R4: what was told does not turn when what was handed in is written over, at any depth.
func TestToldStays(t *testing.T) {
	x, as := mixed()
	nested := typeOf(list(-1), row(0), list(1), row(2), leaf(2, 3))
	within := lists(0, structs(0, 3, lists(0, structs(0, 3, texts(1, "x", "a", "b", "c")), 0, 1, 2, 3)), 0, 1, 1, 3)
	for _, c := range []struct {
		x  api.Type
		at int
		a  api.Array
	}{{x, 0, as[0]}, {x, 1, as[0].Kids[0]}, {x, 2, as[0].Kids[0].Kids[0]}, {x, 3, as[0].Kids[1]}, {x, 4, as[0].Kids[2]}, {nested, 0, within}} {
		for _, r := range spans()[:6] {
			y := typeOf(slices.Clone(c.x.Nodes)...)
			a, over := loose(c.a)
			got, e := Slice(y, c.at, a, r.from, r.count)
			want := deep(c.a)
			want.Offset, want.Length = c.a.Offset+r.from, r.count
			if e != api.OK || !same(got, want) {
				t.Fatalf("P11.1: %v at node %d: %s, %d; want %s", r, c.at, told(got), e, told(want))
			}
			over()
			clear(y.Nodes)
			if !same(got, want) {
				t.Errorf("R4: %v at node %d: turned into %s; want %s", r, c.at, told(got), told(want))
			}
		}
	}
}

// over writes over all that an array has, its lists' spare room too.
func over(a api.Array) {
	kids := a.Kids[:cap(a.Kids)]
	for i := range kids {
		over(kids[i])
		kids[i] = api.Array{Layout: 7, Offset: 8, Length: 9, Valid: "over", Ends: "over", Data: "over"}
	}
}

// R4: what was handed in, and another answer, do not turn when what was told is written over.
func TestAnswersApart(t *testing.T) {
	x, as := mixed()
	for _, a := range as[:2] {
		for _, r := range spans()[:6] {
			a := roomy(a)
			was := whole(a)
			want := deep(a)
			want.Offset, want.Length = a.Offset+r.from, r.count
			first, _ := Slice(x, 0, a, r.from, r.count)
			second, _ := Slice(x, 0, a, r.from, r.count)
			part, _ := Slice(x, 0, first, 0, r.count)
			over(first)
			third, e := Slice(x, 0, a, r.from, r.count)
			if !same(second, want) || !same(third, want) || !same(part, want) || e != api.OK {
				t.Errorf("R4: %v: %s and %s and %s, %d; want %s", r, told(second), told(third), told(part), e, told(want))
			}
			if !reflect.DeepEqual(was, whole(a)) {
				t.Errorf("R4: %v: the array was changed: %s", r, told(whole(a)))
			}
		}
	}
}

// R4: nor does one list within an answer when another one is, though they were one in what was handed in.
func TestListsApart(t *testing.T) {
	some, pair := typeOf(row(-1), list(0), leaf(2, 1), list(0), leaf(2, 3)), typeOf(row(-1), leaf(0, 0), leaf(0, 0))
	for _, c := range []struct {
		x api.Type
		a api.Array
	}{{some, lists(0, texts(0, "a", "b"), 0, 1, 2)}, {pair, dict(0, numbers(0, 5), 0, 0)}, {pair, run(0, 2, numbers(0, 5), 2)}} {
		want := deep(c.a)
		for i := range 2 {
			got, e := Slice(c.x, 0, structs(0, 2, c.a, c.a), 1, 1)
			if e != api.OK || len(got.Kids) != 2 {
				t.Fatalf("P11.1: %s, %d", told(got), e)
			}
			over(got.Kids[i])
			if !same(got.Kids[1-i], want) {
				t.Errorf("R4: turned into %s; want %s", told(got.Kids[1-i]), told(want))
			}
		}
	}
}

// bytesOf are where the bytes of all texts within an array stand.
func bytesOf(a api.Array) []*byte {
	var all []*byte
	for _, s := range []string{a.Valid, a.Ends, a.Data} {
		b := unsafe.Slice(unsafe.StringData(s), len(s))
		for i := range b {
			all = append(all, &b[i])
		}
	}
	for _, kid := range a.Kids {
		all = append(all, bytesOf(kid)...)
	}
	return all
}

// R4: no byte of a text that is told stands in one that was handed in, nor in another answer.
func TestTextsApart(t *testing.T) {
	x, as := mixed()
	a := as[0]
	for _, r := range spans()[:6] {
		first, _ := Slice(x, 0, a, r.from, r.count)
		second, _ := Slice(x, 0, a, r.from, r.count)
		seen := map[*byte]bool{}
		for _, b := range slices.Concat(bytesOf(a), bytesOf(second)) {
			seen[b] = true
		}
		for _, b := range bytesOf(first) {
			if seen[b] {
				t.Fatalf("R4: %v: a byte is shared", r)
			}
		}
	}
}

// R5: from several goroutines at one time.
func TestAtOneTime(t *testing.T) {
	x, as := mixed()
	vs := []string{"{[s3:abcs16:0123456789abcdef]i7;t}", "{[s0:]i8;t}", "{[n]i7;t}"}
	var wait sync.WaitGroup
	for range 8 {
		wait.Go(func() {
			for range 20 {
				holdAt(t, x, 0, as[0], vs[0], "n", vs[2])
				holdAt(t, x, 0, as[1], vs...)
				refuseForm(t, x, 0, as[2])
			}
		})
	}
	wait.Wait()
}
