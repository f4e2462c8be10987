package build

import (
	"slices"
	"strings"
	"sync"
	"testing"
	"unsafe"

	"quiver/api"
)

// mixed is a type with all kinds in it, values of it, and what they are laid down as.
func mixed() (api.Type, []string, api.Array) {
	x := typeOf(null(row(-1)), list(0), null(leaf(2, 1)), leaf(0, 0), null(leaf(1, 0)))
	vs := []string{"{[s3:abcn]i7;t}", "n", "{[s1:x]i-8;n}"}
	return x, vs, lacking(structs(3, lists(lacking(texts("abc", "", "x"), "\x05"), 0, 2, 2, 3), numbers(7, 0, -8), lacking(truths(3, "\x01"), "\x01")), "\x05")
}

// deep copies all of an array, the bytes of its texts too.
func deep(a api.Array) api.Array {
	a.Valid, a.Ends, a.Data, a.Kids = strings.Clone(a.Valid), strings.Clone(a.Ends), strings.Clone(a.Data), slices.Clone(a.Kids)
	for i, kid := range a.Kids {
		a.Kids[i] = deep(kid)
	}
	return a
}

// loose gives a text that is bytes which can be written over, and those.
func loose(s string) (string, []byte) {
	if s == "" {
		return "", nil
	}
	b := []byte(s)
	return unsafe.String(&b[0], len(b)), b
}

// over writes over all that an array has, its lists' spare room too.
func over(a api.Array) {
	kids := a.Kids[:cap(a.Kids)]
	for i := range kids {
		over(kids[i])
		kids[i] = api.Array{Layout: 7, Offset: 8, Length: 9, Valid: "over", Ends: "over", Data: "over"}
	}
}

// R4: what was handed in reads as it did, the lists' spare room too.
func TestHandedInStays(t *testing.T) {
	x, good, _ := mixed()
	x.Nodes = append(x.Nodes, leaf(9, 9), leaf(8, 8))[:len(x.Nodes)]
	nodes := slices.Clone(x.Nodes[:cap(x.Nodes)])
	for _, some := range [][]string{good, good[:1], good[:0], {"{[]i7;t}", "x"}, times(65, "n")} {
		vs := append(slices.Clone(some), "spare", "room")[:len(some)]
		was := slices.Clone(vs[:cap(vs)])
		first, e := Build(x, 0, vs)
		if again, f := Build(x, 0, vs); !same(again, first) || f != e {
			t.Errorf("R5: %s, %d, then %s, %d", short(first), e, short(again), f)
		}
		Build(x, 1, vs)
		if !slices.Equal(was, vs[:cap(vs)]) {
			t.Errorf("R4: the values were changed: %q; were %q", vs[:cap(vs)], was)
		}
		if !slices.Equal(nodes, x.Nodes[:cap(x.Nodes)]) {
			t.Errorf("R4: the type was changed: %v", x.Nodes[:cap(x.Nodes)])
		}
	}
}

// R4: what was told does not turn when what was handed in is written over.
func TestToldStays(t *testing.T) {
	x, good, want := mixed()
	for _, c := range []struct {
		x    api.Type
		vs   []string
		want api.Array
	}{
		{x, good, want}, {x, good[1:2], lacking(structs(1, lists(texts(), 0, 0), numbers(0), lacking(truths(1, "\x00"), "\x00")), "\x00")},
		{bytes, []string{"s3:abc"}, texts("abc")}, {mayBytes, []string{"s16:0123456789abcdef", "n", "s1:n"}, lacking(texts("0123456789abcdef", "", "n"), "\x05")},
		{ints, []string{"i77;"}, numbers(77)}, {mayBools, []string{"t", "n"}, lacking(truths(2, "\x01"), "\x01")},
		{typeOf(list(-1), leaf(2, 0)), []string{"[s3:abc]"}, lists(texts("abc"), 0, 1)}, {typeOf(row(-1), leaf(2, 0)), []string{"{s3:abc}"}, structs(1, texts("abc"))},
	} {
		y := typeOf(slices.Clone(c.x.Nodes)...)
		var vs []string
		var all [][]byte
		for _, v := range c.vs {
			s, b := loose(v)
			vs, all = append(vs, s), append(all, b)
		}
		got, e := Build(y, 0, vs)
		if !same(got, c.want) || e != api.OK {
			t.Fatalf("P10.1: %s: %s, %d", short(vs), short(got), e)
		}
		for i, b := range all {
			for j := range b {
				b[j] = '#'
			}
			vs[i] = "over"
		}
		clear(y.Nodes)
		if !same(got, c.want) {
			t.Errorf("R4: turned into %s; want %s", short(got), short(c.want))
		}
	}
}

// R4: what was handed in, and another answer, do not turn when what was told is written over; nor does one list within an answer when another one is.
func TestAnswersApart(t *testing.T) {
	x, vs, want := mixed()
	nodes, was := slices.Clone(x.Nodes), slices.Clone(vs)
	first, _ := Build(x, 0, vs)
	second, _ := Build(x, 0, vs)
	over(first)
	third, e := Build(x, 0, vs)
	if !same(second, want) || !same(third, want) || e != api.OK {
		t.Errorf("R4: %s and %s, %d; want %s", short(second), short(third), e, short(want))
	}
	if !slices.Equal(nodes, x.Nodes) || !slices.Equal(was, vs) {
		t.Errorf("R4: what was handed in was changed: %v, %q", x, vs)
	}
	some := typeOf(row(-1), list(0), leaf(2, 1), list(0), leaf(2, 3))
	a, _ := Build(some, 0, []string{"{[s1:a][s1:a]}"})
	stays := deep(a.Kids[1])
	over(a.Kids[0])
	if !same(a.Kids[1], stays) {
		t.Errorf("R4: turned into %s; want %s", short(a.Kids[1]), short(stays))
	}
}

// R5: from several goroutines at one time.
func TestAtOneTime(t *testing.T) {
	x, vs, want := mixed()
	var wait sync.WaitGroup
	for range 8 {
		wait.Go(func() {
			for range 50 {
				holdAt(t, x, 0, want, vs...)
				refuseAt(t, x, 0, api.ErrBuildForm, "n", "{[]i7;}")
				refuseAt(t, x, 0, api.ErrBuildFull, times(65, "n")...)
			}
		})
	}
	wait.Wait()
}
