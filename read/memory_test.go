package read

import (
	"reflect"
	"slices"
	"strings"
	"sync"
	"testing"
	"unsafe"

	"quiver/api"
)

// deep copies all of an array, its lists' spare room and its texts too.
func deep(a api.Array) api.Array {
	a.Valid, a.Ends, a.Data = strings.Clone(a.Valid), strings.Clone(a.Ends), strings.Clone(a.Data)
	if a.Kids == nil {
		return a
	}
	kids := make([]api.Array, cap(a.Kids))
	for i, kid := range a.Kids[:cap(a.Kids)] {
		kids[i] = deep(kid)
	}
	a.Kids = kids[:len(a.Kids)]
	return a
}

// whole gives an array with all that its lists have room for, so that two can be held against each other.
func whole(a api.Array) api.Array {
	a = deep(a)
	a.Kids = a.Kids[:cap(a.Kids)]
	for i := range a.Kids {
		a.Kids[i] = whole(a.Kids[i])
	}
	return a
}

// roomy gives all lists within an array spare room, with something in it.
func roomy(a api.Array) api.Array {
	kids := []api.Array{}
	for _, kid := range a.Kids {
		kids = append(kids, roomy(kid))
	}
	n := len(kids)
	a.Kids = append(kids, api.Array{Layout: 7, Offset: -3, Length: 99, Valid: "v", Ends: "e", Data: "d"}, api.Array{Data: "x", Kids: []api.Array{{Length: 5}}})[:n]
	return a
}

// mixed is a type with all kinds in it, and arrays of it, that may be and that may not.
func mixed() (api.Type, []api.Array) {
	x := typeOf(null(row(-1)), list(0), null(leaf(2, 1)), leaf(0, 0), null(leaf(1, 0)))
	many := lists(1, lacking(texts(1, "x", "abc", "0123456789abcdef", ""), "\x0e"), 0, 0, 0, 2, 3)
	a := lacking(structs(1, 2, many, dict(0, numbers(0, 7, 8), 1, 0, 1), run(0, 3, lacking(truths(0, 2, "\x03"), "\x02"), 1, 3)), "\x02")
	whole := lacking(a, "")
	wrong := with(a, func(a *api.Array) { a.Kids[1].Data = fours(1, 0, 2) })
	few := with(a, func(a *api.Array) { a.Length = 0 })
	return x, []api.Array{a, whole, wrong, few}
}

// R4: what was handed in reads as it did, with all that lies within it, the lists' spare room too.
func TestHandedInStays(t *testing.T) {
	x, as := mixed()
	x.Nodes = append(x.Nodes, leaf(9, 9), leaf(8, 8))[:len(x.Nodes)]
	nodes := slices.Clone(x.Nodes[:cap(x.Nodes)])
	for _, a := range as {
		a = roomy(a)
		was := whole(a)
		first, e := Values(x, 0, a)
		for i := range 3 {
			Value(x, 0, a, i)
		}
		Values(x, 1, a.Kids[0])
		if again, f := Values(x, 0, a); !slices.Equal(again, first) || f != e {
			t.Errorf("R5: %q, %d, then %q, %d", first, e, again, f)
		}
		if !slices.Equal(nodes, x.Nodes[:cap(x.Nodes)]) {
			t.Errorf("R4: the type was changed: %v", x.Nodes[:cap(x.Nodes)])
		}
		if !reflect.DeepEqual(was, whole(a)) {
			t.Errorf("R4: the array was changed: %s", told(whole(a)))
		}
	}
}

// loose gives an array with texts that are bytes which can be written over, and what writes over all of it.
func loose(a api.Array) (api.Array, func()) {
	var over []func()
	for _, text := range []*string{&a.Valid, &a.Ends, &a.Data} {
		if *text == "" {
			continue
		}
		b := []byte(*text)
		*text = unsafe.String(&b[0], len(b))
		over = append(over, func() {
			for i := range b {
				b[i] = '#'
			}
		})
	}
	kids := make([]api.Array, len(a.Kids))
	for i, kid := range a.Kids {
		var turn func()
		kids[i], turn = loose(kid)
		over = append(over, turn, func() { kids[i] = api.Array{Length: 3, Data: "over"} })
	}
	a.Kids = kids
	return a, func() {
		for _, turn := range over {
			turn()
		}
	}
}

// clones copies values, and the bytes of each.
func clones(vs []string) []string {
	var out []string
	for _, v := range vs {
		out = append(out, strings.Clone(v))
	}
	return out
}

// R4: what was told does not turn when what was handed in is written over.
func TestToldStays(t *testing.T) {
	x, as := mixed()
	for at, a := range map[int]api.Array{0: as[1], 1: as[1].Kids[0], 2: as[1].Kids[0].Kids[0], 3: as[1].Kids[1], 4: as[1].Kids[2]} {
		y := typeOf(slices.Clone(x.Nodes)...)
		a, over := loose(a)
		vs, e := Values(y, at, a)
		want := clones(vs)
		var ones []string
		for i := range vs {
			v, _ := Value(y, at, a, i)
			ones = append(ones, v)
		}
		if e != api.OK || len(vs) == 0 || !slices.Equal(ones, want) {
			t.Fatalf("P9.1: at node %d: %q, %d; one by one %q", at, vs, e, ones)
		}
		over()
		clear(y.Nodes)
		if !slices.Equal(vs, want) || !slices.Equal(ones, want) {
			t.Errorf("R4: at node %d: turned into %q and %q; want %q", at, vs, ones, want)
		}
	}
}

// R4: what was handed in, and another answer, do not turn when what was told is written over.
func TestAnswersApart(t *testing.T) {
	x, as := mixed()
	for _, a := range as[:2] {
		was := whole(a)
		first, _ := Values(x, 0, a)
		second, _ := Values(x, 0, a)
		want := clones(second)
		first = first[:cap(first)]
		for i := range first {
			first[i] = "over"
		}
		third, e := Values(x, 0, a)
		if !slices.Equal(second, want) || !slices.Equal(third, want) || e != api.OK {
			t.Errorf("R4: %q and %q, %d; want %q", second, third, e, want)
		}
		if !reflect.DeepEqual(was, whole(a)) {
			t.Errorf("R4: the array was changed: %s", told(whole(a)))
		}
	}
}

// R1: kids that stand within themselves are refused, where the type has an end.
func TestKidsWithinThemselves(t *testing.T) {
	for _, x := range []api.Type{ints, typeOf(list(-1), list(0), leaf(1, 1)), typeOf(row(-1), row(0), leaf(2, 1))} {
		for layout := range 4 {
			kids := make([]api.Array, 1)
			kids[0] = api.Array{Layout: layout, Length: 1, Kids: kids}
			if x.Nodes[0].Kind == api.KindList {
				kids[0].Ends = fours(0, 1)
			}
			for at := range x.Nodes {
				// No fault is told by the array, which has no end.
				if vs, e := Values(x, at, kids[0]); len(vs) != 0 || e != api.ErrReadForm {
					t.Errorf("P9.1: at node %d of %v: %d values, %d; want ErrReadForm", at, x, len(vs), e)
				}
				if v, e := Value(x, at, kids[0], 0); v != "" || e != api.ErrReadForm {
					t.Errorf("P9.1: at node %d of %v: %q, %d; want ErrReadForm", at, x, v, e)
				}
			}
		}
	}
}

// R5: from several goroutines at one time.
func TestAtOneTime(t *testing.T) {
	x, as := mixed()
	var wait sync.WaitGroup
	for range 8 {
		wait.Go(func() {
			for range 50 {
				holdAt(t, x, 0, as[0], "{[s3:abcs16:0123456789abcdef]i7;t}", "n")
				holdAt(t, x, 0, as[1], "{[s3:abcs16:0123456789abcdef]i7;t}", "{[s0:]i8;t}")
				refuseAt(t, x, 0, as[2])
			}
		})
	}
	wait.Wait()
}
