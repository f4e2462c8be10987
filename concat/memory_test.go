package concat

import (
	"reflect"
	"slices"
	"strings"
	"sync"
	"testing"
	"unsafe"

	"quiver/api"
)

// deep copies all of an array, its lists' spare room and its texts too.
func deep(a api.Array) api.Array {
	a.Valid, a.Ends, a.Data = strings.Clone(a.Valid), strings.Clone(a.Ends), strings.Clone(a.Data)
	if a.Kids == nil {
		return a
	}
	kids := make([]api.Array, cap(a.Kids))
	for i, kid := range a.Kids[:cap(a.Kids)] {
		kids[i] = deep(kid)
	}
	a.Kids = kids[:len(a.Kids)]
	return a
}

// whole gives an array with all that its lists have room for, so that two can be held against each other.
func whole(a api.Array) api.Array {
	a = deep(a)
	a.Kids = a.Kids[:cap(a.Kids)]
	for i := range a.Kids {
		a.Kids[i] = whole(a.Kids[i])
	}
	return a
}

// roomy gives all lists within an array spare room, with something in it.
func roomy(a api.Array) api.Array {
	kids := []api.Array{}
	for _, kid := range a.Kids {
		kids = append(kids, roomy(kid))
	}
	n := len(kids)
	a.Kids = append(kids, api.Array{Layout: 7, Offset: -3, Length: 99, Valid: "v", Ends: "e", Data: "d"}, api.Array{Data: "x", Kids: []api.Array{{Length: 5}}})[:n]
	return a
}

// mixed is a type with all kinds in it, and arrays of it that may be: in all layouts, as layer 10 builds them, without rows.
func mixed(t *testing.T) (api.Type, []pile) {
	t.Helper()
	x := typeOf(null(row(-1)), list(0), null(leaf(2, 1)), leaf(0, 0), null(leaf(1, 0)))
	many := lists(1, lacking(texts(1, "x", "abc", "0123456789abcdef", "", "y"), "\x2e"), 0, 0, 0, 2, 3, 4)
	ids, ons := dict(1, numbers(1, 0, 7, 8), 9, 1, 0, 1, 0), run(0, 4, lacking(truths(0, 2, "\x03"), "\x02"), 1, 5)
	a := lacking(structs(1, 3, many, ids, ons), "\x0a\xff")
	vs := []string{"{[s3:abcs16:0123456789abcdef]i7;t}", "{[s0:]i8;t}", "{[n]i7;t}"}
	return x, []pile{pileOf(a, vs[0], "n", vs[2]), pileOf(lacking(a, ""), vs...), built(t, x, []string{vs[1], "n"}), pileOf(with(a, func(a *api.Array) { a.Length = 0 })), built(t, x, nil)}
}

// wrongs are arrays of that type that may not be, and one that has as many rows as can be.
func wrongs(x api.Type, a api.Array) []api.Array {
	return []api.Array{with(a, func(a *api.Array) { a.Kids[1].Data = fours(9, 1, 0, 2, 0) }), with(a, func(a *api.Array) { a.Layout = api.LayoutDict }), goods(x, 0)[3]}
}

// R4: what was handed in reads as it did, with all that lies within it, the lists' spare room too, errors or none; R5: what is told is so again.
func TestHandedInStays(t *testing.T) {
	x, piles := mixed(t)
	x.Nodes = append(x.Nodes, leaf(9, 9), leaf(8, 8))[:len(x.Nodes)]
	nodes := slices.Clone(x.Nodes[:cap(x.Nodes)])
	as := wrongs(x, piles[0].a)
	for _, p := range piles {
		as = append(as, p.a)
	}
	for _, a := range as {
		for _, b := range as {
			a, b := roomy(a), roomy(b)
			was, is := whole(a), whole(b)
			first, e := Concat(x, 0, a, b)
			Concat(x, 1, a.Kids[0], b.Kids[0])
			Concat(x, 1, a, b)
			Concat(x, 9, a, b)
			if again, f := Concat(x, 0, a, b); !same(again, first) || f != e {
				t.Errorf("R5: %s and %s: %s, %d, then %s, %d", told(a), told(b), told(first), e, told(again), f)
			}
			if !slices.Equal(nodes, x.Nodes[:cap(x.Nodes)]) {
				t.Errorf("R4: the type was changed: %v", x.Nodes[:cap(x.Nodes)])
			}
			if !reflect.DeepEqual(was, whole(a)) || !reflect.DeepEqual(is, whole(b)) {
				t.Errorf("R4: an array was changed: %s and %s; were %s and %s", told(whole(a)), told(whole(b)), told(was), told(is))
			}
		}
	}
}

// loose gives an array with texts that are bytes which can be written over, and what writes over all of it.
func loose(a api.Array) (api.Array, func()) {
	var over []func()
	for _, text := range []*string{&a.Valid, &a.Ends, &a.Data} {
		if *text == "" {
			continue
		}
		b := []byte(*text)
		*text = unsafe.String(&b[0], len(b))
		over = append(over, func() {
			for i := range b {
				b[i] = '#'
			}
		})
	}
	kids := make([]api.Array, len(a.Kids))
	for i, kid := range a.Kids {
		var turn func()
		kids[i], turn = loose(kid)
		over = append(over, turn, func() { kids[i] = api.Array{Length: 3, Data: "over"} })
	}
	a.Kids = kids
	return a, func() {
		for _, turn := range over {
			turn()
		}
	}
}

// pairs is each two of all, with their type; one twice among them.
func pairs(t *testing.T) []struct {
	x    api.Type
	p, q pile
} {
	t.Helper()
	var out []struct {
		x    api.Type
		p, q pile
	}
	add := func(x api.Type, all []pile) {
		for _, p := range all {
			for _, q := range all {
				out = append(out, struct {
					x    api.Type
					p, q pile
				}{x, p, q})
			}
		}
	}
	add(mixed(t))
	for _, c := range onces() {
		add(c.must, layouts(c.all[1]))
		add(c.may, gaps(c.all[0]))
		// Of one row, and as layer 10 builds it.
		add(c.must, []pile{built(t, c.must, c.all[0].vs[2:3]), built(t, c.must, nil)})
	}
	for _, c := range nested() {
		add(c.x, c.all)
	}
	return out
}

// R4: what was told does not turn when what was handed in is written over, at any depth.
func TestToldStays(t *testing.T) {
	for _, c := range pairs(t) {
		y := typeOf(slices.Clone(c.x.Nodes)...)
		a, overFirst := loose(c.p.a)
		b, overSecond := loose(c.q.a)
		got, e := Concat(y, 0, a, b)
		twice, f := Concat(y, 0, a, a)
		want, stays := deep(got), deep(twice)
		if e != api.OK || f != api.OK {
			t.Fatalf("P12.1: %s and %s: %d, %d", told(a), told(b), e, f)
		}
		overFirst()
		overSecond()
		clear(y.Nodes)
		if !same(got, want) || !same(twice, stays) {
			t.Errorf("R4: turned into %s and %s; want %s and %s", told(got), told(twice), told(want), told(stays))
		}
	}
}

// over writes over all that an array has, its lists' spare room too.
func over(a api.Array) {
	kids := a.Kids[:cap(a.Kids)]
	for i := range kids {
		over(kids[i])
		kids[i] = api.Array{Layout: 7, Offset: 8, Length: 9, Valid: "over", Ends: "over", Data: "over"}
	}
}

// R4: what was handed in, and another answer, do not turn when what was told is written over.
func TestAnswersApart(t *testing.T) {
	for _, c := range pairs(t) {
		a, b := roomy(c.p.a), roomy(c.q.a)
		was, is := whole(a), whole(b)
		first, _ := Concat(c.x, 0, a, b)
		second, _ := Concat(c.x, 0, a, b)
		none, _ := Concat(c.x, 0, first, built(t, c.x, nil).a)
		want := deep(second)
		over(first)
		third, e := Concat(c.x, 0, a, b)
		if !same(second, want) || !same(third, want) || !same(none, want) || e != api.OK {
			t.Errorf("R4: %s and %s and %s, %d; want %s", told(second), told(third), told(none), e, told(want))
		}
		if !reflect.DeepEqual(was, whole(a)) || !reflect.DeepEqual(is, whole(b)) {
			t.Errorf("R4: an array was changed: %s and %s; were %s and %s", told(whole(a)), told(whole(b)), told(was), told(is))
		}
	}
}

// R4: nor does one list within an answer when another one is, though they were one in what was handed in.
func TestListsApart(t *testing.T) {
	x := typeOf(row(-1), list(0), leaf(2, 1), list(0), leaf(2, 3))
	kid := lists(0, texts(0, "a", "b"), 0, 1, 2)
	for i := range 2 {
		a := structs(0, 2, kid, kid)
		got, e := Concat(x, 0, a, a)
		if e != api.OK || len(got.Kids) != 2 {
			t.Fatalf("P12.1: %s, %d", told(got), e)
		}
		want := deep(got.Kids[1-i])
		over(got.Kids[i])
		if !same(got.Kids[1-i], want) {
			t.Errorf("R4: turned into %s; want %s", told(got.Kids[1-i]), told(want))
		}
	}
}

// bytesOf are where the bytes of all texts within an array stand. Go itself keeps the texts of one byte, made of bytes, in one place for all.
func bytesOf(a api.Array) []*byte {
	var all []*byte
	for _, s := range []string{a.Valid, a.Ends, a.Data} {
		if len(s) == 1 {
			continue
		}
		b := unsafe.Slice(unsafe.StringData(s), len(s))
		for i := range b {
			all = append(all, &b[i])
		}
	}
	for _, kid := range a.Kids {
		all = append(all, bytesOf(kid)...)
	}
	return all
}

// R4: no byte of a text that is told stands in one that was handed in, nor in another answer.
func TestTextsApart(t *testing.T) {
	for _, c := range pairs(t) {
		first, _ := Concat(c.x, 0, c.p.a, c.q.a)
		second, _ := Concat(c.x, 0, c.p.a, c.q.a)
		seen := map[*byte]bool{}
		for _, b := range slices.Concat(bytesOf(c.p.a), bytesOf(c.q.a), bytesOf(second)) {
			seen[b] = true
		}
		for _, b := range bytesOf(first) {
			if seen[b] {
				t.Fatalf("R4: %s and %s: a byte is shared", told(c.p.a), told(c.q.a))
			}
		}
	}
}

// R5: from several goroutines at one time.
func TestAtOneTime(t *testing.T) {
	x, piles := mixed(t)
	wrong := wrongs(x, piles[0].a)
	var wait sync.WaitGroup
	for range 8 {
		wait.Go(func() {
			for range 20 {
				for _, p := range piles[:2] {
					for _, q := range piles[:2] {
						holdAt(t, x, 0, p, q)
					}
					refuseAt(t, x, 0, p.a, wrong[0], api.ErrConcatForm)
					refuseAt(t, x, 0, p.a, wrong[2], api.ErrConcatFull)
				}
			}
		})
	}
	wait.Wait()
}
