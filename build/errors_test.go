package build

import (
	"fmt"
	"slices"
	"strings"
	"testing"

	"quiver/api"
	"quiver/value"
)

// refuseAt holds that an error is told, and nothing beside it.
func refuseAt(t *testing.T, x api.Type, at int, want api.Errno, vs ...string) {
	t.Helper()
	if a, e := Build(x, at, vs); !same(a, api.Array{}) || e != want {
		t.Errorf("P10.1: at node %d of %v: %s: %s, %d; want %d", at, x, short(vs), short(a), e, want)
	}
}

// refuse holds that one of vs does not fit, as the only one, the first one, the last one and one between: of node 0, and of that node below a list and below a struct.
func refuse(t *testing.T, x api.Type, bad string, good ...string) {
	t.Helper()
	some, pair := moved(x, list(-1)), moved(x, row(-1), leaf(api.KindInt, 0))
	within := func(v string) string { return "{i1;" + v + "}" }
	all := [][]string{{bad}, {bad, bad}}
	for _, g := range good {
		all = append(all, []string{bad, g}, []string{g, bad}, []string{g, bad, g}, append(times(63, g), bad), append([]string{bad}, times(63, g)...))
	}
	for _, vs := range all {
		refuseAt(t, x, 0, api.ErrBuildForm, vs...)
		refuseAt(t, some, 1, api.ErrBuildForm, vs...)
		refuseAt(t, some, 0, api.ErrBuildForm, listed(vs...))
		refuseAt(t, pair, 2, api.ErrBuildForm, vs...)
		var rows, lists []string
		for _, v := range vs {
			rows, lists = append(rows, within(v)), append(lists, listed(v))
		}
		refuseAt(t, pair, 0, api.ErrBuildForm, rows...)
		refuseAt(t, some, 0, api.ErrBuildForm, lists...)
	}
	for _, g := range good {
		refuseAt(t, some, 0, api.ErrBuildForm, "[]", listed(g), listed(g, bad), listed(g))
	}
}

func TestNoType(t *testing.T) {
	nine := []api.Node{row(-1)}
	for range 8 {
		nine = append(nine, leaf(0, 0))
	}
	for _, x := range []api.Type{
		{}, {Nodes: []api.Node{}}, typeOf(nine...),
		typeOf(leaf(0, 0)), typeOf(leaf(0, -2)), typeOf(leaf(5, -1)), typeOf(leaf(-1, -1)), typeOf(leaf(least, -1)), typeOf(null(leaf(greatest, -1))),
		typeOf(list(-1)), typeOf(row(-1)), typeOf(null(list(-1)), leaf(0, 0), leaf(0, 0)), typeOf(leaf(0, -1), leaf(0, 0)),
		typeOf(row(-1), leaf(0, 0), leaf(0, 1)), typeOf(row(-1), leaf(0, 0), leaf(0, 2)), typeOf(row(-1), leaf(0, 0), leaf(0, -1)), typeOf(row(-1), leaf(0, 0), leaf(0, greatest)),
		typeOf(row(-1), leaf(0, 0), leaf(7, 0)), typeOf(row(-1), leaf(0, 0), list(0)),
		typeOf(list(-1), list(0), list(1), list(2), list(3), leaf(0, 4)),
	} {
		for _, at := range []int{least, -1, 0, 1, 2, 3, len(x.Nodes) - 1, len(x.Nodes), greatest} {
			refuseAt(t, x, at, api.ErrBuildForm)
			for _, v := range []string{"n", "i5;", "t", "s1:a", "[]", "[i5;]", "{}", "{i5;}", "{i5;i5;}"} {
				refuseAt(t, x, at, api.ErrBuildForm, v)
				refuseAt(t, x, at, api.ErrBuildForm, times(65, v)...)
			}
		}
	}
}

func TestNoNode(t *testing.T) {
	wide := typeOf(row(-1), leaf(0, 0), list(0), leaf(0, 2))
	for _, x := range []api.Type{ints, mayInts, wide} {
		n := len(x.Nodes)
		for _, at := range []int{least, least + 1, -1 << 32, -n, -3, -2, -1, n, n + 1, 2 * n, api.MaxNodes, 256, 1 << 31, 1 << 32, 1<<32 + 1, greatest - 1, greatest} {
			if at < 0 || at >= n {
				refuseAt(t, x, at, api.ErrBuildForm)
				refuseAt(t, x, at, api.ErrBuildForm, "i5;")
				refuseAt(t, x, at, api.ErrBuildForm, "n", "n")
			}
		}
	}
}

// kindly is a type of each kind, one value of it, and one of those that may be nothing.
func kindly() []struct {
	x    api.Type
	good string
} {
	return []struct {
		x    api.Type
		good string
	}{
		{ints, "i5;"}, {mayInts, "i5;"}, {mayInts, "n"}, {bools, "t"}, {mayBools, "f"}, {bytes, "s1:a"}, {mayBytes, "s0:"},
		{typeOf(list(-1), leaf(0, 0)), "[i5;]"}, {typeOf(null(list(-1)), null(leaf(2, 0))), "[n]"},
		{typeOf(row(-1), leaf(0, 0)), "{i5;}"}, {typeOf(null(row(-1)), null(leaf(1, 0)), leaf(2, 0)), "{ns1:a}"},
	}
}

func TestNoValue(t *testing.T) {
	for _, k := range kindly() {
		for _, bad := range []string{
			"", "x", "N", "T", "tt", "ft", "nn", " n", "n ", "null", "i", "i;", "i5", "5;", "i05;", "i+5;", "i-0;", "i--1;", "i5;;", "i5;n", "i 5;", "i5.0;", "i0x5;", "i9223372036854775808;", "i-9223372036854775809;",
			"s", "s:", "s1:", "s2:a", "s1:ab", "s01:a", "s+1:a", "s-1:", "s1a", "1:a", "s9223372036854775808:", "[", "]", "[i5;", "i5;]", "[]]", "[[]", "[}", "[i5;}", "{", "}", "{i5;", "{i5;]", "{}}", "{{}", "\x00", "é",
		} {
			if !value.Fits(k.x, 0, bad) {
				// Two values in one text may be two of a list, but not one of vs.
				for _, vs := range [][]string{{bad}, {bad, k.good}, {k.good, bad}, {k.good, bad, k.good}} {
					refuseAt(t, k.x, 0, api.ErrBuildForm, vs...)
				}
				continue
			}
			t.Errorf("%q is a value of %v", bad, k.x)
		}
		for _, bad := range []string{"x", "i", "i05;", "i5", "s2:a", "s-1:", "[", "]", "{", "}", "{]", "[}"} {
			refuse(t, k.x, bad, k.good)
		}
	}
}

func TestOtherKinds(t *testing.T) {
	for _, k := range kindly() {
		good := []string{k.good}
		for _, v := range []string{"i5;", "i-1;", "t", "f", "s0:", "s1:a", "s3:i5;", "[]", "[i5;]", "[n]", "[t]", "[[]]", "[[i5;]]", "[i5;t]", "{}", "{i5;}", "{t}", "{n}", "{[]}", "{{i5;}}", "{i5;i5;}", "{ts1:a}", "{tn}", "{s1:at}", "{i5;s1:a}"} {
			if !value.Fits(k.x, 0, v) {
				refuse(t, k.x, v, good...)
			}
		}
	}
	for _, x := range []api.Type{ints, bools, bytes, typeOf(list(-1), null(leaf(0, 0))), typeOf(row(-1), null(leaf(0, 0)))} {
		refuseAt(t, x, 0, api.ErrBuildForm, "n")
	}
	// Nothing, of what may not be it.
	refuse(t, ints, "n", "i5;")
	refuse(t, bools, "n", "t", "f")
	refuse(t, bytes, "n", "s1:n", "s0:")
	refuse(t, typeOf(list(-1), null(leaf(0, 0))), "n", "[n]", "[]")
	refuse(t, typeOf(row(-1), null(leaf(0, 0))), "n", "{n}")
	refuse(t, typeOf(null(list(-1)), leaf(0, 0)), "[n]", "n", "[]", "[i5;]")
	refuse(t, typeOf(null(row(-1)), leaf(0, 0)), "{n}", "n", "{i5;}")
}

func TestStructsOfOthers(t *testing.T) {
	pair := typeOf(row(-1), leaf(0, 0), null(leaf(1, 0)))
	for _, bad := range []string{"{}", "{i5;}", "{i5;tt}", "{i5;tn}", "{i5;ti5;}", "{ti5;}", "{nt}", "{i5;i5;}", "{t}", "{n}", "[i5;t]", "{[i5;]t}", "{{i5;t}}", "i5;t", "i5;"} {
		refuse(t, pair, bad, "{i5;t}", "{i5;n}")
	}
	refuse(t, typeOf(row(-1), row(0), leaf(0, 1)), "{i5;}", "{{i5;}}")
	refuse(t, typeOf(row(-1), row(0), leaf(0, 1)), "{{}}", "{{i5;}}")
	refuse(t, typeOf(row(-1), row(0), leaf(0, 1)), "{{i5;i5;}}", "{{i5;}}")
	refuse(t, typeOf(row(-1), row(0), leaf(0, 1)), "{{{i5;}}}", "{{i5;}}")
}

func TestLong(t *testing.T) {
	most := "s16:0123456789abcdef"
	for _, n := range []int{17, 18, 32, 64, 255, 256, 4096, 4097, 65000} {
		refuse(t, bytes, fmt.Sprintf("s%d:%s", n, strings.Repeat("a", n)), most)
		refuse(t, mayBytes, fmt.Sprintf("s%d:%s", n, strings.Repeat("\xff", n)), most, "n")
	}
	// A list longer than an array may be does not fit, so it is no array that is full.
	for _, n := range []int{65, 66, 128, 256, 1000} {
		refuse(t, typeOf(list(-1), leaf(1, 0)), listed(times(n, "t")...), "[]", "[t]")
		refuse(t, typeOf(null(list(-1)), null(leaf(1, 0))), listed(times(n, "n")...), "n", "[]")
		refuse(t, typeOf(list(-1), list(0), leaf(1, 1)), listed(times(n, "[]")...), "[]", "[[]]")
	}
	// Nor does what is longer than a value may be.
	words := typeOf(list(-1), list(0), leaf(2, 1))
	long := listed(times(64, listed(times(64, most)...))...)
	if value.Fits(words, 0, long) {
		t.Errorf("a value of %d bytes fits", len(long))
	}
	refuseAt(t, words, 0, api.ErrBuildForm, long)
	refuseAt(t, words, 0, api.ErrBuildForm, "[]", long)
	refuseAt(t, words, 0, api.ErrBuildFull, listed(times(50, listed(times(64, most)...))...))
}

// Each kind's values, and nothing: MaxRows of them are no error, one more is.
func TestRows(t *testing.T) {
	for _, k := range kindly() {
		for _, n := range []int{65, 66, 127, 128, 129, 256, 1000, 5000} {
			refuseAt(t, k.x, 0, api.ErrBuildFull, times(n, k.good)...)
		}
		for _, n := range []int{1, 63, 64} {
			if a, e := Build(k.x, 0, times(n, k.good)); a.Length != n || e != api.OK {
				t.Errorf("P10.1: of %d: %s, %d", n, short(a), e)
			}
		}
	}
	var xs []int
	vs := many(65, func(i int) string { return fmt.Sprintf("i%d;", i) })
	for i := range 64 {
		xs = append(xs, i)
	}
	holdAt(t, ints, 0, numbers(xs...), vs[:64]...)
	refuseAt(t, ints, 0, api.ErrBuildFull, vs...)
	// Empty lists, and structs that are nothing, are rows too.
	some := typeOf(list(-1), leaf(2, 0))
	holdAt(t, some, 0, lists(texts(), make([]int, 65)...), times(64, "[]")...)
	refuseAt(t, some, 0, api.ErrBuildFull, times(65, "[]")...)
	refuseAt(t, typeOf(null(row(-1)), leaf(0, 0)), 0, api.ErrBuildFull, times(65, "n")...)
}

// parted are rows of lists of truths, at most 63 of them, that have just so many together, from 64 to 100.
func parted(count int) [][]string {
	one := func(n int) string { return listed(times(n, "t")...) }
	return [][]string{
		{one(64), one(count - 64)}, {one(count - 64), one(64)}, {one(63), one(count - 63)}, {one(count / 2), "[]", one(count - count/2)}, {"[]", one(63), "[]", one(count - 63), "[]"},
		{one(20), one(20), one(20), one(count - 60)}, append(times(62, "[t]"), one(count-62)), append([]string{one(count - 62)}, times(62, "[t]")...),
	}
}

// fine holds that so many are no error.
func fine(t *testing.T, x api.Type, vs ...string) {
	t.Helper()
	if a, e := Build(x, 0, vs); a.Length != len(vs) || e != api.OK {
		t.Errorf("P10.1: of %v: %s: %s, %d", x, short(vs), short(a), e)
	}
}

// within gives each value between two signs.
func within(vs []string, from string, to string) []string {
	return many(len(vs), func(i int) string { return from + vs[i] + to })
}

func TestListsTogether(t *testing.T) {
	some := typeOf(list(-1), leaf(1, 0))
	may := typeOf(null(list(-1)), null(leaf(1, 0)))
	for _, count := range []int{64, 65, 66, 100} {
		hold := func(x api.Type, vs ...string) {
			t.Helper()
			if count == 64 {
				fine(t, x, vs...)
			} else {
				refuseAt(t, x, 0, api.ErrBuildFull, vs...)
			}
		}
		for _, vs := range parted(count) {
			hold(some, vs...)
			hold(may, append([]string{"n"}, vs...)...)
			hold(moved(some, row(-1), leaf(0, 0)), within(vs, "{i5;", "}")...)
			hold(moved(some, row(-1)), within(vs, "{", "}")...)
			hold(moved(some, null(row(-1))), append(within(vs, "{", "}"), "n")...)
			hold(moved(some, list(-1)), listed(vs...))
			hold(moved(some, list(-1)), listed(vs[0]), listed(vs[1:]...))
			hold(moved(some, list(-1)), within(vs, "[", "]")...)
			hold(moved(moved(some, row(-1)), list(-1)), listed(within(vs, "{", "}")...))
			hold(moved(moved(some, list(-1)), row(-1)), within(vs, "{[", "]}")...)
			// A kid that has room ahead of this one, and behind it.
			hold(typeOf(row(-1), list(0), leaf(0, 1), list(0), leaf(1, 3)), within(vs, "{[i1;]", "}")...)
			hold(typeOf(row(-1), list(0), leaf(1, 1), list(0), leaf(0, 3)), within(vs, "{", "[i1;]}")...)
		}
	}
}

func TestListsInListsTogether(t *testing.T) {
	full := func(x api.Type, vs ...string) {
		t.Helper()
		refuseAt(t, x, 0, api.ErrBuildFull, vs...)
	}
	some := typeOf(list(-1), leaf(1, 0))
	may := typeOf(null(list(-1)), null(leaf(1, 0)))
	// Lists in lists: the lists count too, the empty ones with them.
	two := typeOf(list(-1), list(0), leaf(1, 1))
	fine(t, two, times(64, "[[]]")...)
	fine(t, two, listed(times(64, "[]")...))
	fine(t, two, listed(times(64, "[t]")...), "[]")
	full(two, listed(times(64, "[]")...), "[[]]")
	full(two, listed(times(33, "[]")...), listed(times(32, "[]")...))
	full(two, listed(times(64, "[tt]")...))
	full(two, times(64, "[[][]]")...)
	full(typeOf(list(-1), null(row(0)), leaf(0, 1)), listed(times(33, "n")...), listed(times(32, "n")...))
	fine(t, typeOf(list(-1), null(row(0)), leaf(0, 1)), listed(times(32, "n")...), listed(times(32, "n")...))
	// A list that is nothing, or that is within nothing, takes no room.
	fine(t, may, append(times(63, "n"), listed(times(64, "n")...))...)
	fine(t, moved(some, null(row(-1))), append(times(63, "n"), "{"+listed(times(64, "t")...)+"}")...)
	// As full as lists below lists may be.
	deep := typeOf(list(-1), list(0), list(1), list(2), leaf(1, 3))
	fine(t, deep, "[[["+strings.Repeat("[t]", 64)+"]]]")
	full(deep, "[[["+strings.Repeat("[t]", 63)+"[tt]]]]")
	v := "[" + strings.Repeat("["+strings.Repeat("["+strings.Repeat("[t]", 5)+"]", 15)+"]", 64) + "]"
	full(deep, v)
	full(deep, times(64, v)...)
}

// R6: what does not fit is told first, wherever it stands.
func TestBothErrors(t *testing.T) {
	for _, k := range kindly() {
		for _, at := range []int{0, 1, 30, 63, 64, 65, 99} {
			vs := times(100, k.good)
			vs[at] = "x"
			refuseAt(t, k.x, 0, api.ErrBuildForm, vs...)
		}
	}
	refuseAt(t, ints, 1, api.ErrBuildForm, times(65, "i5;")...)
	refuseAt(t, ints, -1, api.ErrBuildForm, times(65, "i5;")...)
	some := typeOf(list(-1), leaf(1, 0))
	many := listed(times(64, "t")...)
	refuseAt(t, some, 0, api.ErrBuildForm, many, many, "[n]")
	refuseAt(t, some, 0, api.ErrBuildForm, "t", many, many)
	refuseAt(t, some, 0, api.ErrBuildForm, many, "[t", many)
	refuseAt(t, some, 0, api.ErrBuildForm, append(times(65, many), "[i5;]")...)
	refuseAt(t, some, 0, api.ErrBuildForm, append(slices.Clone(times(64, many)), "n")...)
	// One list of too many does not fit, two are too many together.
	refuseAt(t, some, 0, api.ErrBuildForm, listed(times(65, "t")...))
	refuseAt(t, some, 0, api.ErrBuildFull, many, "[t]")
	within := moved(some, row(-1), leaf(2, 0))
	refuseAt(t, within, 0, api.ErrBuildForm, "{s1:a"+many+"}", "{s1:a"+many+"}", "{s17:0123456789abcdefg[]}")
	refuseAt(t, within, 0, api.ErrBuildFull, "{s1:a"+many+"}", "{s1:a"+many+"}", "{s16:0123456789abcdef[]}")
}
