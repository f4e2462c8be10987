package take

import (
	"reflect"
	"slices"
	"strings"
	"sync"
	"testing"
	"unsafe"

	"quiver/api"
)

// deep copies all of an array, its lists' spare room and its texts too.
func deep(a api.Array) api.Array {
	a.Valid, a.Ends, a.Data = strings.Clone(a.Valid), strings.Clone(a.Ends), strings.Clone(a.Data)
	if a.Kids == nil {
		return a
	}
	kids := make([]api.Array, cap(a.Kids))
	for i, kid := range a.Kids[:cap(a.Kids)] {
		kids[i] = deep(kid)
	}
	a.Kids = kids[:len(a.Kids)]
	return a
}

// whole gives an array with all that its lists have room for, so that two can be held against each other.
func whole(a api.Array) api.Array {
	a = deep(a)
	a.Kids = a.Kids[:cap(a.Kids)]
	for i := range a.Kids {
		a.Kids[i] = whole(a.Kids[i])
	}
	return a
}

// roomy gives all lists within an array spare room, with something in it.
func roomy(a api.Array) api.Array {
	kids := []api.Array{}
	for _, kid := range a.Kids {
		kids = append(kids, roomy(kid))
	}
	n := len(kids)
	a.Kids = append(kids, api.Array{Layout: 7, Offset: -3, Length: 99, Valid: "v", Ends: "e", Data: "d"}, api.Array{Data: "x", Kids: []api.Array{{Length: 5}}})[:n]
	return a
}

// mixed is a type with all kinds in it, and arrays of it that may be: in all layouts, as layer 10 builds them, without rows.
func mixed(t *testing.T) (api.Type, []pile) {
	t.Helper()
	x := typeOf(null(row(-1)), list(0), null(leaf(2, 1)), leaf(0, 0), null(leaf(1, 0)))
	many := lists(1, lacking(texts(1, "x", "abc", "0123456789abcdef", "", "y"), "\x2e"), 0, 0, 0, 2, 3, 4)
	ids, ons := dict(1, numbers(1, 0, 7, 8), 9, 1, 0, 1, 0), run(0, 4, lacking(truths(0, 2, "\x03"), "\x02"), 1, 5)
	a := lacking(structs(1, 3, many, ids, ons), "\x0a\xff")
	vs := []string{"{[s3:abcs16:0123456789abcdef]i7;t}", "{[s0:]i8;t}", "{[n]i7;t}"}
	return x, []pile{pileOf(a, vs[0], "n", vs[2]), pileOf(lacking(a, ""), vs...), built(t, x, []string{vs[1], "n"}), pileOf(with(a, func(a *api.Array) { a.Length = 0 })), built(t, x, nil)}
}

// wrongs are arrays of that type that may not be.
func wrongs(a api.Array) []api.Array {
	return []api.Array{with(a, func(a *api.Array) { a.Kids[1].Data = fours(9, 1, 0, 2, 0) }), with(a, func(a *api.Array) { a.Layout = api.LayoutDict })}
}

// R4: what was handed in reads as it did, with all that lies within it, the lists' spare room too, errors or none; R5: what is told is so again.
func TestHandedInStays(t *testing.T) {
	x, piles := mixed(t)
	x.Nodes = append(x.Nodes, leaf(9, 9), leaf(8, 8))[:len(x.Nodes)]
	nodes := slices.Clone(x.Nodes[:cap(x.Nodes)])
	as := wrongs(piles[0].a)
	for _, p := range piles {
		as = append(as, p.a)
	}
	for _, a := range as {
		for _, rows := range [][]int{{}, {0}, {2, 1, 0}, {1, 1, 0, 1}, {0, -1, 0}, {99}, make([]int, 65)} {
			a := roomy(a)
			was := whole(a)
			rows := append(rows, 5, -7, 0)[:len(rows)]
			all := slices.Clone(rows[:cap(rows)])
			first, e := Take(x, 0, a, rows)
			Take(x, 1, a.Kids[0], rows)
			Take(x, 1, a, rows)
			Take(x, 9, a, rows)
			if again, f := Take(x, 0, a, rows); !same(again, first) || f != e {
				t.Errorf("R5: %v of %s: %s, %d, then %s, %d", rows, told(a), told(first), e, told(again), f)
			}
			if !slices.Equal(nodes, x.Nodes[:cap(x.Nodes)]) {
				t.Errorf("R4: the type was changed: %v", x.Nodes[:cap(x.Nodes)])
			}
			if !slices.Equal(all, rows[:cap(rows)]) {
				t.Errorf("R4: rows were changed: %v; were %v", rows[:cap(rows)], all)
			}
			if !reflect.DeepEqual(was, whole(a)) {
				t.Errorf("R4: an array was changed: %s; was %s", told(whole(a)), told(was))
			}
		}
	}
}

// loose gives an array with texts that are bytes which can be written over, and what writes over all of it.
func loose(a api.Array) (api.Array, func()) {
	var over []func()
	for _, text := range []*string{&a.Valid, &a.Ends, &a.Data} {
		if *text == "" {
			continue
		}
		b := []byte(*text)
		*text = unsafe.String(&b[0], len(b))
		over = append(over, func() {
			for i := range b {
				b[i] = '#'
			}
		})
	}
	kids := make([]api.Array, len(a.Kids))
	for i, kid := range a.Kids {
		var turn func()
		kids[i], turn = loose(kid)
		over = append(over, turn, func() { kids[i] = api.Array{Length: 3, Data: "over"} })
	}
	a.Kids = kids
	return a, func() {
		for _, turn := range over {
			turn()
		}
	}
}

// part is an array with its type, and rows of it.
type part struct {
	x    api.Type
	a    api.Array
	rows []int
}

// partsOf are arrays with rows of theirs: some, all in their row, none.
func partsOf(t *testing.T) []part {
	t.Helper()
	var out []part
	add := func(x api.Type, all []pile) {
		for _, p := range all {
			for _, rows := range picks(len(p.vs)) {
				out = append(out, part{x, p.a, rows})
			}
		}
	}
	add(mixed(t))
	for _, c := range onces() {
		add(c.must, layouts(c.all[1]))
		add(c.may, gaps(c.all[0]))
		// Of one row, and as layer 10 builds it.
		add(c.must, []pile{built(t, c.must, c.all[0].vs[2:3]), built(t, c.must, c.all[1].vs)})
	}
	for _, c := range nested() {
		add(c.x, c.all)
	}
	return out
}

// R4: what was told does not turn when what was handed in is written over, at any depth.
func TestToldStays(t *testing.T) {
	for _, c := range partsOf(t) {
		y := typeOf(slices.Clone(c.x.Nodes)...)
		a, overAll := loose(c.a)
		rows := slices.Clone(c.rows)
		got, e := Take(y, 0, a, rows)
		want := deep(got)
		if e != api.OK {
			t.Fatalf("P13.1: %v of %s: %d", rows, told(a), e)
		}
		overAll()
		clear(y.Nodes)
		for i := range rows {
			rows[i] = -9
		}
		if !same(got, want) {
			t.Errorf("R4: %v turned into %s; want %s", c.rows, told(got), told(want))
		}
	}
}

// over writes over all that an array has, its lists' spare room too.
func over(a api.Array) {
	kids := a.Kids[:cap(a.Kids)]
	for i := range kids {
		over(kids[i])
		kids[i] = api.Array{Layout: 7, Offset: 8, Length: 9, Valid: "over", Ends: "over", Data: "over"}
	}
}

// R4: what was handed in, and another answer, do not turn when what was told is written over.
func TestAnswersApart(t *testing.T) {
	for _, c := range partsOf(t) {
		a := roomy(c.a)
		was := whole(a)
		rows := slices.Clone(c.rows)
		first, _ := Take(c.x, 0, a, rows)
		second, _ := Take(c.x, 0, a, rows)
		// All rows of an answer are another answer.
		again, _ := Take(c.x, 0, first, upTo(first.Length))
		want := deep(second)
		over(first)
		third, e := Take(c.x, 0, a, rows)
		if !same(second, want) || !same(third, want) || !same(again, want) || e != api.OK {
			t.Errorf("R4: %v: %s and %s and %s, %d; want %s", rows, told(second), told(third), told(again), e, told(want))
		}
		if !reflect.DeepEqual(was, whole(a)) || !slices.Equal(rows, c.rows) {
			t.Errorf("R4: %v: %s; was %s", rows, told(whole(a)), told(was))
		}
	}
}

// upTo are the numbers of so many rows.
func upTo(length int) []int {
	var rows []int
	for i := range length {
		rows = append(rows, i)
	}
	return rows
}

// R4: nor does one list within an answer when another one is, though they were one in what was handed in.
func TestListsApart(t *testing.T) {
	x := typeOf(row(-1), list(0), leaf(2, 1), list(0), leaf(2, 3))
	kid := lists(0, texts(0, "a", "b"), 0, 1, 2)
	for i := range 2 {
		a := structs(0, 2, kid, kid)
		got, e := Take(x, 0, a, []int{1, 0, 1})
		if e != api.OK || len(got.Kids) != 2 {
			t.Fatalf("P13.1: %s, %d", told(got), e)
		}
		want := deep(got.Kids[1-i])
		over(got.Kids[i])
		if !same(got.Kids[1-i], want) {
			t.Errorf("R4: turned into %s; want %s", told(got.Kids[1-i]), told(want))
		}
	}
}

// bytesOf are where the bytes of all texts within an array stand. Go itself keeps the texts of one byte, made of bytes, in one place for all.
func bytesOf(a api.Array) []*byte {
	var all []*byte
	for _, s := range []string{a.Valid, a.Ends, a.Data} {
		if len(s) == 1 {
			continue
		}
		b := unsafe.Slice(unsafe.StringData(s), len(s))
		for i := range b {
			all = append(all, &b[i])
		}
	}
	for _, kid := range a.Kids {
		all = append(all, bytesOf(kid)...)
	}
	return all
}

// R4: no byte of a text that is told stands in one that was handed in, nor in another answer.
func TestTextsApart(t *testing.T) {
	for _, c := range partsOf(t) {
		first, _ := Take(c.x, 0, c.a, c.rows)
		second, _ := Take(c.x, 0, c.a, c.rows)
		seen := map[*byte]bool{}
		for _, b := range slices.Concat(bytesOf(c.a), bytesOf(second)) {
			seen[b] = true
		}
		for _, b := range bytesOf(first) {
			if seen[b] {
				t.Fatalf("R4: %v of %s: a byte is shared", c.rows, told(c.a))
			}
		}
	}
}

// R5: from several goroutines at one time.
func TestAtOneTime(t *testing.T) {
	x, piles := mixed(t)
	wrong := wrongs(piles[0].a)
	var wait sync.WaitGroup
	for range 8 {
		wait.Go(func() {
			for range 20 {
				for _, p := range piles[:2] {
					holdEach(t, x, 0, p)
					refuseAt(t, x, 0, wrong[0], api.ErrTakeForm, 0)
					refuseAt(t, x, 0, p.a, api.ErrTakeRange, 3)
					refuseAt(t, x, 0, p.a, api.ErrTakeFull, make([]int, 65)...)
				}
			}
		})
	}
	wait.Wait()
}
