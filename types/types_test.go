package types

import (
	"math"
	"slices"
	"sync"
	"testing"

	"quiver/api"
)

const (
	least    = math.MinInt
	greatest = math.MaxInt
)

// known is what a type is, worked out from the first node down: each node hands its levels to its kids.
type known struct {
	nodes  []api.Node
	kids   [][]int
	reps   []int
	defs   []int
	leaves []int
	seen   int
	wrong  bool
}

// know tells what is known of a type, and whether it may be.
func know(nodes []api.Node) (*known, bool) {
	k := &known{nodes: nodes}
	if len(nodes) == 0 || len(nodes) > 8 || nodes[0].Parent != -1 {
		return k, false
	}
	k.kids = make([][]int, len(nodes))
	k.reps = make([]int, len(nodes))
	k.defs = make([]int, len(nodes))
	k.down(0, 0, 0, 0)
	slices.Sort(k.leaves)
	// A node that hangs on none of those ahead of it is never come to.
	return k, !k.wrong && k.seen == len(nodes)
}

func (k *known) down(at int, depth int, rep int, def int) {
	k.seen++
	n := k.nodes[at]
	if n.Kind == api.KindList {
		rep, def = rep+1, def+1
	}
	if n.Null {
		def++
	}
	k.reps[at], k.defs[at] = rep, def
	for i := at + 1; i < len(k.nodes); i++ {
		if k.nodes[i].Parent == at {
			k.kids[at] = append(k.kids[at], i)
			k.down(i, depth+1, rep, def)
		}
	}
	many := len(k.kids[at])
	switch n.Kind {
	case api.KindInt, api.KindBool, api.KindBytes:
		k.leaves = append(k.leaves, at)
		k.wrong = k.wrong || many != 0
	case api.KindList:
		k.wrong = k.wrong || many != 1
	case api.KindStruct:
		k.wrong = k.wrong || many == 0
	default:
		k.wrong = true
	}
	k.wrong = k.wrong || depth > 4
}

func typeOf(nodes ...api.Node) api.Type { return api.Type{Nodes: nodes} }

func leaf(parent int) api.Node { return api.Node{Kind: api.KindInt, Parent: parent} }

func list(parent int) api.Node { return api.Node{Kind: api.KindList, Parent: parent} }

func row(parent int) api.Node { return api.Node{Kind: api.KindStruct, Parent: parent} }

func null(n api.Node) api.Node {
	n.Null = true
	return n
}

func holdMay(t *testing.T, x api.Type, want bool) {
	t.Helper()
	if got := May(x); got != want {
		t.Errorf("P5.1: may %v be: %v; want %v", x, got, want)
	}
}

func holdKids(t *testing.T, x api.Type, at int, want []int, wantErr api.Errno) {
	t.Helper()
	if got, e := Kids(x, at); !slices.Equal(got, want) || e != wantErr {
		t.Errorf("P5.1: kids of %d of %v: %v, %d; want %v, %d", at, x, got, e, want, wantErr)
	}
}

func holdLeaves(t *testing.T, x api.Type, want []int, wantErr api.Errno) {
	t.Helper()
	if got, e := Leaves(x); !slices.Equal(got, want) || e != wantErr {
		t.Errorf("P5.1: leaves of %v: %v, %d; want %v, %d", x, got, e, want, wantErr)
	}
}

func holdLevels(t *testing.T, x api.Type, at int, rep int, def int, wantErr api.Errno) {
	t.Helper()
	if a, b, e := Levels(x, at); a != rep || b != def || e != wantErr {
		t.Errorf("P5.2: levels of %d of %v: %d, %d, %d; want %d, %d, %d", at, x, a, b, e, rep, def, wantErr)
	}
}

// holdNoNode holds that at is no node of x.
func holdNoNode(t *testing.T, x api.Type, at int) {
	t.Helper()
	holdKids(t, x, at, nil, api.ErrTypesForm)
	holdLevels(t, x, at, 0, 0, api.ErrTypesForm)
}

// holdNone holds that x may not be.
func holdNone(t *testing.T, x api.Type) {
	t.Helper()
	holdMay(t, x, false)
	holdLeaves(t, x, nil, api.ErrTypesForm)
	for _, at := range []int{least, -1, 0, 1, len(x.Nodes) - 1, len(x.Nodes), greatest} {
		holdNoNode(t, x, at)
	}
}

// hold holds all that is told of x against what is known, and tells whether it may be.
func hold(t *testing.T, x api.Type) bool {
	t.Helper()
	k, may := know(x.Nodes)
	if !may {
		holdNone(t, x)
		return false
	}
	holdMay(t, x, true)
	holdLeaves(t, x, k.leaves, api.OK)
	for at := range x.Nodes {
		holdKids(t, x, at, k.kids[at], api.OK)
		holdLevels(t, x, at, k.reps[at], k.defs[at], api.OK)
	}
	for _, at := range []int{least, -2, -1, len(x.Nodes), len(x.Nodes) + 1, api.MaxNodes, greatest} {
		if at < 0 || at >= len(x.Nodes) {
			holdNoNode(t, x, at)
		}
	}
	return true
}

// walk gives get every list of n nodes of these kinds and of the parents that parents tells for each place.
func walk(n int, kinds []int, parents func(at int) []int, get func(nodes []api.Node)) {
	nodes := make([]api.Node, n)
	var fill func(at int)
	fill = func(at int) {
		if at == n {
			get(nodes)
			return
		}
		for _, parent := range parents(at) {
			for _, kind := range kinds {
				nodes[at] = api.Node{Kind: kind, Parent: parent}
				fill(at + 1)
			}
		}
	}
	fill(0)
}

// ahead is the parents that a node of a type may have by its place alone.
func ahead(at int) []int {
	if at == 0 {
		return []int{-1}
	}
	var out []int
	for i := range at {
		out = append(out, i)
	}
	return out
}

func TestOneNode(t *testing.T) {
	for kind := -2; kind <= 7; kind++ {
		for parent := -3; parent <= 3; parent++ {
			for _, on := range []bool{false, true} {
				x := typeOf(api.Node{Kind: kind, Parent: parent, Null: on})
				want := kind >= 0 && kind <= 2 && parent == -1
				if got := hold(t, x); got != want {
					t.Errorf("P5.1: may %v be: %v; want %v", x, got, want)
				}
			}
		}
	}
	for _, kind := range []int{api.KindInt, api.KindBool, api.KindBytes} {
		x := typeOf(api.Node{Kind: kind, Parent: -1})
		holdMay(t, x, true)
		holdKids(t, x, 0, nil, api.OK)
		holdLeaves(t, x, []int{0}, api.OK)
		holdLevels(t, x, 0, 0, 0, api.OK)
		x.Nodes[0].Null = true
		holdLeaves(t, x, []int{0}, api.OK)
		holdLevels(t, x, 0, 0, 1, api.OK)
	}
}

func TestListOfLeaves(t *testing.T) {
	for _, kind := range []int{api.KindInt, api.KindBool, api.KindBytes} {
		for mask := range 4 {
			x := typeOf(list(-1), api.Node{Kind: kind, Parent: 0})
			x.Nodes[0].Null, x.Nodes[1].Null = mask&1 == 1, mask&2 == 2
			holdMay(t, x, true)
			holdKids(t, x, 0, []int{1}, api.OK)
			holdKids(t, x, 1, nil, api.OK)
			holdLeaves(t, x, []int{1}, api.OK)
			holdLevels(t, x, 0, 1, 1+mask&1, api.OK)
			holdLevels(t, x, 1, 1, 1+mask&1+mask>>1, api.OK)
		}
	}
}

// A list that may be nothing counts twice, wherever it stands on the way.
func TestNullListCountsTwice(t *testing.T) {
	x := typeOf(null(list(-1)), null(list(0)), null(list(1)), null(list(2)), null(leaf(3)))
	for at := range 4 {
		holdLevels(t, x, at, at+1, 2*(at+1), api.OK)
	}
	holdLevels(t, x, 4, 4, 9, api.OK)
	x = typeOf(row(-1), null(list(0)), leaf(1), list(0), leaf(3))
	holdLevels(t, x, 0, 0, 0, api.OK)
	holdLevels(t, x, 1, 1, 2, api.OK)
	holdLevels(t, x, 2, 1, 2, api.OK)
	holdLevels(t, x, 3, 1, 1, api.OK)
	holdLevels(t, x, 4, 1, 1, api.OK)
}

func TestStructOfSeveral(t *testing.T) {
	x := typeOf(row(-1), leaf(0), null(api.Node{Kind: api.KindBool, Parent: 0}), api.Node{Kind: api.KindBytes, Parent: 0})
	holdMay(t, x, true)
	holdKids(t, x, 0, []int{1, 2, 3}, api.OK)
	holdLeaves(t, x, []int{1, 2, 3}, api.OK)
	holdLevels(t, x, 0, 0, 0, api.OK)
	holdLevels(t, x, 2, 0, 1, api.OK)
	holdLevels(t, x, 3, 0, 0, api.OK)
	x.Nodes[0].Null = true
	holdLevels(t, x, 0, 0, 1, api.OK)
	holdLevels(t, x, 1, 0, 1, api.OK)
	holdLevels(t, x, 2, 0, 2, api.OK)
}

func TestListsWithinStructsWithinLists(t *testing.T) {
	x := typeOf(list(-1), null(row(0)), leaf(1), null(list(1)), list(3), null(leaf(4)))
	holdMay(t, x, true)
	holdKids(t, x, 0, []int{1}, api.OK)
	holdKids(t, x, 1, []int{2, 3}, api.OK)
	holdKids(t, x, 3, []int{4}, api.OK)
	holdKids(t, x, 4, []int{5}, api.OK)
	holdLeaves(t, x, []int{2, 5}, api.OK)
	holdLevels(t, x, 0, 1, 1, api.OK)
	holdLevels(t, x, 1, 1, 2, api.OK)
	holdLevels(t, x, 2, 1, 2, api.OK)
	holdLevels(t, x, 3, 2, 4, api.OK)
	holdLevels(t, x, 4, 3, 5, api.OK)
	holdLevels(t, x, 5, 3, 6, api.OK)
}

// Kids that stand far apart, and kids of several nodes, mixed: they are told by number, not by where they hang.
func TestKidsApart(t *testing.T) {
	x := typeOf(row(-1), row(0), row(0), leaf(2), leaf(1), leaf(2), leaf(1), leaf(0))
	holdMay(t, x, true)
	holdKids(t, x, 0, []int{1, 2, 7}, api.OK)
	holdKids(t, x, 1, []int{4, 6}, api.OK)
	holdKids(t, x, 2, []int{3, 5}, api.OK)
	holdLeaves(t, x, []int{3, 4, 5, 6, 7}, api.OK)
	x = typeOf(row(-1), list(0), leaf(0), list(0), leaf(0), leaf(0), leaf(3), leaf(1))
	holdKids(t, x, 0, []int{1, 2, 3, 4, 5}, api.OK)
	holdKids(t, x, 1, []int{7}, api.OK)
	holdKids(t, x, 3, []int{6}, api.OK)
	holdLeaves(t, x, []int{2, 4, 5, 6, 7}, api.OK)
	hold(t, x)
}

func TestHowManyNodes(t *testing.T) {
	holdNone(t, api.Type{})
	holdNone(t, api.Type{Nodes: []api.Node{}})
	for n := 1; n <= 20; n++ {
		x := typeOf(row(-1))
		var all []int
		for i := 1; i < n; i++ {
			x.Nodes = append(x.Nodes, leaf(0))
			all = append(all, i)
		}
		if n == 1 || n > api.MaxNodes {
			holdNone(t, x)
			continue
		}
		hold(t, x)
		holdKids(t, x, 0, all, api.OK)
		holdLeaves(t, x, all, api.OK)
	}
	// A type of very many nodes is refused at once.
	long := typeOf(row(-1))
	for range 1 << 20 {
		long.Nodes = append(long.Nodes, leaf(0))
	}
	if _, e := Leaves(long); May(long) || e != api.ErrTypesForm {
		t.Errorf("P5.1: %d nodes may be", len(long.Nodes))
	}
}

func TestHowDeep(t *testing.T) {
	for _, nest := range []func(int) api.Node{list, row} {
		for depth := range 8 {
			x := typeOf()
			for i := range depth {
				x.Nodes = append(x.Nodes, nest(i-1))
			}
			x.Nodes = append(x.Nodes, leaf(depth-1))
			holdMay(t, x, depth <= api.MaxDepth)
			if got := hold(t, x); got != (depth <= api.MaxDepth) {
				t.Errorf("P5.1: a leaf %d deep: %v", depth, got)
			}
		}
	}
	// The deep one is not the last one, and hangs beside others.
	holdMay(t, typeOf(row(-1), row(0), row(1), row(2), leaf(3), leaf(0), leaf(1)), true)
	holdNone(t, typeOf(row(-1), row(0), row(1), row(2), row(3), leaf(4), leaf(0), leaf(1)))
	holdMay(t, typeOf(row(-1), leaf(0), row(0), row(2), row(3), leaf(4), leaf(4), leaf(0)), true)
}

func TestHowManyKids(t *testing.T) {
	holdNone(t, typeOf(list(-1)))
	holdMay(t, typeOf(list(-1), leaf(0)), true)
	holdNone(t, typeOf(list(-1), leaf(0), leaf(0)))
	holdNone(t, typeOf(row(-1)))
	holdMay(t, typeOf(row(-1), leaf(0)), true)
	holdMay(t, typeOf(row(-1), leaf(0), leaf(0)), true)
	// Not the first node alone.
	holdNone(t, typeOf(row(-1), list(0)))
	holdNone(t, typeOf(row(-1), leaf(0), row(0)))
	holdNone(t, typeOf(row(-1), list(0), leaf(1), leaf(0), leaf(1)))
	holdNone(t, typeOf(list(-1), list(0), leaf(1), leaf(1)))
	holdMay(t, typeOf(row(-1), list(0), leaf(0), leaf(1)), true)
}

func TestWrongParents(t *testing.T) {
	for _, parent := range []int{least, least + 1, -3, -2, 0, 1, 2, greatest - 1, greatest} {
		holdNone(t, typeOf(leaf(parent)))
		holdNone(t, typeOf(row(parent), leaf(0)))
		holdNone(t, typeOf(list(parent), leaf(0)))
	}
	// Below 0, itself, behind it, nowhere.
	for _, parent := range []int{least, least + 1, -3, -2, -1, 2, 3, 4, 7, 8, greatest - 1, greatest} {
		for _, n := range []api.Node{leaf(parent), list(parent), row(parent)} {
			holdNone(t, typeOf(row(-1), leaf(0), n, leaf(0)))
			holdNone(t, typeOf(row(-1), leaf(0), n, leaf(2)))
		}
	}
	// Two that hang on each other.
	holdNone(t, typeOf(row(-1), leaf(0), row(3), row(2)))
	holdNone(t, typeOf(row(-1), leaf(0), list(3), list(2)))
	// A leaf of each kind.
	for _, kind := range []int{api.KindInt, api.KindBool, api.KindBytes} {
		holdNone(t, typeOf(api.Node{Kind: kind, Parent: -1}, leaf(0)))
		holdNone(t, typeOf(row(-1), api.Node{Kind: kind, Parent: 0}, leaf(1)))
	}
}

func TestWrongKinds(t *testing.T) {
	for _, kind := range []int{least, least + 1, -3, -2, -1, 5, 6, 255, 256, 1 << 31, greatest - 1, greatest} {
		wrong := api.Node{Kind: kind, Parent: -1}
		holdNone(t, typeOf(wrong))
		holdNone(t, typeOf(wrong, leaf(0)))
		wrong.Parent = 0
		holdNone(t, typeOf(list(-1), wrong))
		holdNone(t, typeOf(row(-1), wrong))
		holdNone(t, typeOf(row(-1), leaf(0), wrong))
		holdNone(t, typeOf(row(-1), wrong, leaf(0)))
		holdNone(t, typeOf(row(-1), wrong, leaf(1)))
	}
}

func TestAllOfFewNodes(t *testing.T) {
	kinds := []int{-1, 0, 1, 2, 3, 4, 5}
	for n := 1; n <= 3; n++ {
		walk(n, kinds, func(int) []int { return []int{-2, -1, 0, 1, 2, 3} }, func(nodes []api.Node) {
			hold(t, api.Type{Nodes: nodes})
		})
	}
	walk(4, []int{0, 3, 4}, func(int) []int { return []int{-1, 0, 1, 2, 3} }, func(nodes []api.Node) {
		hold(t, api.Type{Nodes: nodes})
	})
}

func TestAllOfMoreNodes(t *testing.T) {
	for n := 1; n <= 6; n++ {
		may := 0
		walk(n, []int{0, 3, 4}, ahead, func(nodes []api.Node) {
			x := api.Type{Nodes: nodes}
			if !hold(t, x) {
				return
			}
			may++
			for mask := range 1 << n {
				for i := range nodes {
					nodes[i].Null = mask>>i&1 == 1
				}
				hold(t, x)
			}
		})
		if may == 0 {
			t.Errorf("P5.1: no type of %d nodes was held", n)
		}
	}
}

func TestMixedOfManyNodes(t *testing.T) {
	state := uint32(1)
	next := func(n int) int {
		state = state*1664525 + 1013904223
		return int(state>>16) % n
	}
	may := map[int]int{}
	for range 200000 {
		nodes := []api.Node{{Kind: 3 + next(2), Parent: -1, Null: next(2) == 0}}
		for n := 2 + next(8); len(nodes) < n; {
			nodes = append(nodes, api.Node{Kind: next(5), Parent: next(len(nodes)), Null: next(2) == 0})
		}
		if hold(t, api.Type{Nodes: nodes}) {
			may[len(nodes)]++
		}
	}
	if may[7] == 0 || may[8] == 0 || may[9] != 0 {
		t.Errorf("P5.1: how many types of how many nodes: %v", may)
	}
}

// R4: the type that was handed in reads as it did, its list's spare room too.
func TestHandedInStays(t *testing.T) {
	for _, nodes := range [][]api.Node{
		{row(-1), list(0), leaf(0), null(leaf(1))},
		{row(-1), list(0), leaf(0), null(leaf(3))},
	} {
		room := append(slices.Clone(nodes), leaf(1), null(list(0)), api.Node{Kind: 77, Parent: 88})
		before := slices.Clone(room)
		x := api.Type{Nodes: room[:len(nodes)]}
		May(x)
		Leaves(x)
		for at := -1; at <= len(room); at++ {
			Kids(x, at)
			Levels(x, at)
		}
		if !slices.Equal(room, before) {
			t.Errorf("R4: %v became %v", before, room)
		}
	}
}

// spoil writes all over a list, its spare room too.
func spoil(xs []int) {
	xs = xs[:cap(xs)]
	for i := range xs {
		xs[i] = -99
	}
}

// R4: an answer can be written to, and neither the type nor another answer is changed.
func TestAnswersAreNew(t *testing.T) {
	x := typeOf(row(-1), row(0), leaf(0), leaf(1), leaf(0))
	before := slices.Clone(x.Nodes)
	leaves, _ := Leaves(x)
	other, _ := Leaves(x)
	first, _ := Kids(x, 0)
	again, _ := Kids(x, 0)
	second, _ := Kids(x, 1)
	spoil(leaves)
	spoil(first)
	for _, c := range []struct{ got, want []int }{{other, []int{2, 3, 4}}, {again, []int{1, 2, 4}}, {second, []int{3}}} {
		if !slices.Equal(c.got, c.want) {
			t.Errorf("R4: an earlier answer is %v; want %v", c.got, c.want)
		}
	}
	if !slices.Equal(x.Nodes, before) {
		t.Errorf("R4: %v became %v", before, x.Nodes)
	}
	hold(t, x)
}

// R4: nothing of a type is kept: another one in the same memory is told as it is.
func TestNothingIsKept(t *testing.T) {
	x := typeOf(row(-1), leaf(0), leaf(0))
	hold(t, x)
	leaves, _ := Leaves(x)
	kids, _ := Kids(x, 0)
	x.Nodes[0], x.Nodes[1], x.Nodes[2] = list(-1), null(list(0)), leaf(1)
	hold(t, x)
	holdKids(t, x, 0, []int{1}, api.OK)
	x.Nodes[2].Parent = 2
	holdNone(t, x)
	if !slices.Equal(leaves, []int{1, 2}) || !slices.Equal(kids, []int{1, 2}) {
		t.Errorf("R4: an answer became %v, %v", leaves, kids)
	}
}

// R5: the same answers from several goroutines at one time, of one type.
func TestAtOneTime(t *testing.T) {
	shared := typeOf(list(-1), null(row(0)), leaf(1), null(list(1)), list(3), null(leaf(4)))
	var wait sync.WaitGroup
	for range 8 {
		wait.Go(func() {
			for range 300 {
				hold(t, shared)
				hold(t, typeOf(row(-1), list(0)))
			}
		})
	}
	wait.Wait()
}
