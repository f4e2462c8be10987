package schema

import (
	"math"
	"slices"
	"strings"
	"sync"
	"testing"

	"quiver/api"
)

const (
	least    = math.MinInt
	greatest = math.MaxInt
)

func typeOf(nodes ...api.Node) api.Type { return api.Type{Nodes: nodes} }

func leaf(kind int, parent int) api.Node { return api.Node{Kind: kind, Parent: parent} }

func list(parent int) api.Node { return api.Node{Kind: api.KindList, Parent: parent} }

func row(parent int) api.Node { return api.Node{Kind: api.KindStruct, Parent: parent} }

func null(n api.Node) api.Node {
	n.Null = true
	return n
}

// pair is a type and its text, written out.
type pair struct {
	what string
	x    api.Type
	text string
}

func pairs() []pair {
	return []pair{
		{"an int", typeOf(leaf(0, -1)), "\x01\x00\x00\x00"},
		{"a bool", typeOf(leaf(1, -1)), "\x01\x01\x00\x00"},
		{"bytes", typeOf(leaf(2, -1)), "\x01\x02\x00\x00"},
		{"an int or nothing", typeOf(null(leaf(0, -1))), "\x01\x00\x00\x01"},
		{"a bool or nothing", typeOf(null(leaf(1, -1))), "\x01\x01\x00\x01"},
		{"bytes or nothing", typeOf(null(leaf(2, -1))), "\x01\x02\x00\x01"},
		{"a list", typeOf(list(-1), leaf(0, 0)), "\x02\x03\x00\x00\x00\x01\x00"},
		{"a list or nothing", typeOf(null(list(-1)), leaf(1, 0)), "\x02\x03\x00\x01\x01\x01\x00"},
		{"a list of nothings", typeOf(list(-1), null(leaf(2, 0))), "\x02\x03\x00\x00\x02\x01\x01"},
		{"a struct of one", typeOf(row(-1), leaf(2, 0)), "\x02\x04\x00\x00\x02\x01\x00"},
		{"a struct of three", typeOf(null(row(-1)), leaf(0, 0), null(leaf(1, 0)), leaf(2, 0)),
			"\x04\x04\x00\x01\x00\x01\x00\x01\x01\x01\x02\x01\x00"},
		{"a list within a struct within a list", typeOf(list(-1), null(row(0)), null(list(1)), leaf(1, 1), null(leaf(2, 2))),
			"\x05\x03\x00\x00\x04\x01\x01\x03\x02\x01\x01\x02\x00\x02\x03\x01"},
		{"kids apart", typeOf(row(-1), list(0), leaf(0, 0), list(0), leaf(1, 3), leaf(2, 1)),
			"\x06\x04\x00\x00\x03\x01\x00\x00\x01\x00\x03\x01\x00\x01\x04\x00\x02\x02\x00"},
		{"as deep as can be", typeOf(list(-1), list(0), row(1), null(list(2)), leaf(0, 3)),
			"\x05\x03\x00\x00\x03\x01\x00\x04\x02\x00\x03\x03\x01\x00\x04\x00"},
		{"as many as can be", typeOf(row(-1), leaf(0, 0), leaf(1, 0), leaf(2, 0), null(leaf(0, 0)), null(leaf(1, 0)), null(leaf(2, 0)), leaf(0, 0)),
			"\x08\x04\x00\x00\x00\x01\x00\x01\x01\x00\x02\x01\x00\x00\x01\x01\x01\x01\x01\x02\x01\x01\x00\x01\x00"},
		{"as many and as deep", typeOf(null(row(-1)), null(row(0)), null(row(1)), null(row(2)), null(leaf(2, 3)), null(row(0)), null(row(5)), null(leaf(1, 6))),
			"\x08\x04\x00\x01\x04\x01\x01\x04\x02\x01\x04\x03\x01\x02\x04\x01\x04\x01\x01\x04\x06\x01\x01\x07\x01"},
	}
}

// isText tells from the bytes alone whether s is a type's text: how deep each node is and how many kids it has are kept as they are read.
func isText(s string) bool {
	if s == "" || s[0] < 1 || s[0] > 8 || len(s) != 1+3*int(s[0]) {
		return false
	}
	n := int(s[0])
	var depth, kids [8]int
	for i := range n {
		kind, up, on := s[1+3*i], int(s[2+3*i]), s[3+3*i]
		if kind > 4 || on > 1 || up > i || (up == 0) != (i == 0) {
			return false
		}
		if up > 0 {
			depth[i] = depth[up-1] + 1
			kids[up-1]++
		}
		if depth[i] > 4 {
			return false
		}
	}
	for i := range n {
		kind := s[1+3*i]
		if kind <= 2 && kids[i] != 0 || kind == 3 && kids[i] != 1 || kind == 4 && kids[i] == 0 {
			return false
		}
	}
	return true
}

// holdPut holds that want is what Put tells of x, and x what Get tells of it.
func holdPut(t *testing.T, x api.Type, want string) {
	t.Helper()
	if got, e := Put(x); got != want || e != api.OK {
		t.Errorf("P6.1: put of %v: %q, %d; want %q", x, got, e, want)
	}
	if got, e := Get(want); !slices.Equal(got.Nodes, x.Nodes) || e != api.OK {
		t.Errorf("P6.1: get of %q: %v, %d; want %v", want, got, e, x)
	}
}

// holdNoType holds that x may not be.
func holdNoType(t *testing.T, x api.Type) {
	t.Helper()
	if got, e := Put(x); got != "" || e != api.ErrSchemaForm {
		t.Errorf("P6.1: put of %v: %q, %d; want none, %d", x, got, e, api.ErrSchemaForm)
	}
}

// holdNoText holds that s is no type's text.
func holdNoText(t *testing.T, s string) {
	t.Helper()
	if got, e := Get(s); got.Nodes != nil || e != api.ErrSchemaForm {
		t.Errorf("P6.1: get of %q: %v, %d; want none, %d", s[:min(len(s), 40)], got, e, api.ErrSchemaForm)
	}
}

// hold holds what is told of s against its bytes, and tells whether it is a type's text.
func hold(t *testing.T, s string) bool {
	t.Helper()
	if !isText(s) {
		holdNoText(t, s)
		return false
	}
	got, e := Get(s)
	if e != api.OK || len(got.Nodes) != int(s[0]) {
		t.Errorf("P6.1: get of %q: %v, %d", s, got, e)
		return true
	}
	for i, n := range got.Nodes {
		if n.Kind != int(s[1+3*i]) || n.Parent != int(s[2+3*i])-1 || n.Null != (s[3+3*i] == 1) {
			t.Errorf("P6.1: get of %q: node %d is %v", s, i, n)
		}
	}
	if again, e := Put(got); again != s || e != api.OK {
		t.Errorf("P6.1: put of get of %q: %q, %d", s, again, e)
	}
	return true
}

// with is s with its byte at made b.
func with(s string, at int, b byte) string {
	out := []byte(s)
	out[at] = b
	return string(out)
}

func TestTexts(t *testing.T) {
	for _, p := range pairs() {
		t.Run(p.what, func(t *testing.T) {
			holdPut(t, p.x, p.text)
			hold(t, p.text)
		})
	}
}

func TestHowManyNodes(t *testing.T) {
	holdNoType(t, api.Type{})
	holdNoType(t, api.Type{Nodes: []api.Node{}})
	holdNoType(t, typeOf(row(-1)))
	x, text := typeOf(row(-1)), "\x04\x00\x00"
	for n := 2; n <= 300; n++ {
		x.Nodes = append(x.Nodes, leaf(n%3, 0))
		text += string([]byte{byte(n % 3), 1, 0})
		if n <= api.MaxNodes {
			holdPut(t, x, string([]byte{byte(n)})+text)
			continue
		}
		holdNoType(t, x)
		holdNoText(t, string([]byte{byte(n)})+text)
		holdNoText(t, "\x08"+text)
	}
	// What is far too long is refused at once.
	long := typeOf(row(-1))
	for range 1 << 20 {
		long.Nodes = append(long.Nodes, leaf(0, 0))
	}
	if s, e := Put(long); s != "" || e != api.ErrSchemaForm {
		t.Errorf("P6.1: %d nodes: %q, %d", len(long.Nodes), s, e)
	}
	for _, p := range pairs() {
		holdNoText(t, p.text+strings.Repeat("\x00\x01\x00", 1<<20))
	}
}

func TestHowDeep(t *testing.T) {
	for _, nest := range []func(int) api.Node{list, row} {
		x, text := typeOf(), ""
		for depth := range 7 {
			whole := append(slices.Clone(x.Nodes), leaf(2, depth-1))
			s := string([]byte{byte(depth + 1)}) + text + string([]byte{2, byte(depth), 0})
			if depth <= api.MaxDepth {
				holdPut(t, typeOf(whole...), s)
			} else {
				holdNoType(t, typeOf(whole...))
				holdNoText(t, s)
			}
			n := nest(depth - 1)
			x.Nodes = append(x.Nodes, n)
			text += string([]byte{byte(n.Kind), byte(depth), 0})
		}
	}
}

// Kids too few, too many, or of what has none.
func TestHowManyKids(t *testing.T) {
	for _, x := range []api.Type{
		typeOf(list(-1)),
		typeOf(list(-1), leaf(0, 0), leaf(0, 0)),
		typeOf(row(-1), list(0)),
		typeOf(row(-1), leaf(0, 0), row(0)),
		typeOf(leaf(0, -1), leaf(0, 0)),
		typeOf(leaf(1, -1), leaf(0, 0)),
		typeOf(leaf(2, -1), leaf(0, 0)),
		typeOf(row(-1), leaf(0, 0), leaf(0, 1)),
	} {
		holdNoType(t, x)
		text := []byte{byte(len(x.Nodes))}
		for _, n := range x.Nodes {
			text = append(text, byte(n.Kind), byte(n.Parent+1), 0)
		}
		holdNoText(t, string(text))
	}
}

// A number that is another one's in its lowest byte is told from it.
func TestWrongKindsAndParents(t *testing.T) {
	for _, p := range pairs() {
		for at, was := range p.x.Nodes {
			for _, kind := range []int{least, least + was.Kind, -256 + was.Kind, -2, -1, 5, 6, 255, 256, 256 + was.Kind, 1<<32 + was.Kind, greatest - 1, greatest} {
				p.x.Nodes[at].Kind = kind
				holdNoType(t, p.x)
			}
			p.x.Nodes[at].Kind = was.Kind
			for _, parent := range []int{least, least + 1 + was.Parent, -256 + was.Parent, -2, at, at + 1, 8, 255, 256, 256 + was.Parent, 1<<32 + was.Parent, greatest - 1, greatest} {
				p.x.Nodes[at].Parent = parent
				holdNoType(t, p.x)
			}
			p.x.Nodes[at].Parent = was.Parent
		}
		for at := 1; at < len(p.x.Nodes); at++ {
			was := p.x.Nodes[at]
			p.x.Nodes[at].Parent = -1
			holdNoType(t, p.x)
			p.x.Nodes[at] = was
		}
		holdPut(t, p.x, p.text)
	}
}

func TestTextsThatAreNone(t *testing.T) {
	for _, s := range []string{
		"",
		"\x00",
		"\x01",
		"\x00\x00\x00\x00",
		"\x01\x00\x00\x02",
		"\x01\x00\x00\xff",
		"\x01\x00\x01\x00",
		"\x01\x00\xff\x00",
		"\x01\x03\x00\x00",
		"\x01\x04\x00\x00",
		"\x01\x05\x00\x00",
		"\x01\xff\x00\x00",
		"\x02\x04\x00\x00\x00\x00\x00",
		"\x02\x04\x00\x00\x00\x02\x00",
		"\x02\x04\x00\x00\x00\x03\x00",
		"\x02\x04\x00\x02\x00\x01\x00",
		"\x02\x04\x00\x00\x00\x01\x03",
		"\x02\x00\x00\x00\x00\x01\x00",
		"\x02\x00\x00\x00\x00\x00\x00",
		"1000",
	} {
		holdNoText(t, s)
	}
}

func TestCutAtEveryPlace(t *testing.T) {
	for _, p := range pairs() {
		for n := range len(p.text) {
			holdNoText(t, p.text[:n])
			holdNoText(t, p.text[n+1:])
		}
	}
}

func TestMoreBehind(t *testing.T) {
	for _, p := range pairs() {
		for b := range 256 {
			holdNoText(t, p.text+string([]byte{byte(b)}))
		}
		for _, more := range []string{"\x00\x00", "\x00\x00\x00", "\x00\x01\x00", "\x00\x01\x00\x00", p.text, p.text[1:]} {
			holdNoText(t, p.text+more)
		}
	}
}

func TestFirstByte(t *testing.T) {
	for _, p := range pairs() {
		for b := range 256 {
			if byte(b) != p.text[0] {
				holdNoText(t, with(p.text, 0, byte(b)))
			}
		}
	}
}

func TestNullBytes(t *testing.T) {
	for _, p := range pairs() {
		for at := range p.x.Nodes {
			for b := 2; b < 256; b++ {
				holdNoText(t, with(p.text, 3+3*at, byte(b)))
			}
			// The other truth is another type's text.
			p.x.Nodes[at].Null = !p.x.Nodes[at].Null
			holdPut(t, p.x, with(p.text, 3+3*at, p.text[3+3*at]^1))
			p.x.Nodes[at].Null = !p.x.Nodes[at].Null
		}
	}
}

// Each byte of each text made each other one, and two of them at a time some others.
func TestTurnedBytes(t *testing.T) {
	few := []byte{0, 1, 2, 3, 4, 5, 8, 255}
	texts := 0
	for _, p := range pairs() {
		for at := range len(p.text) {
			for b := range 256 {
				if s := with(p.text, at, byte(b)); hold(t, s) && s != p.text {
					texts++
				}
			}
			for other := range at {
				for _, a := range few {
					for _, b := range few {
						hold(t, with(with(p.text, at, a), other, b))
					}
				}
			}
		}
	}
	if texts == 0 {
		t.Error("P6.1: no turned text was held that is another type's")
	}
}

// walk gives get every text of n bytes of these, behind a first one.
func walk(first byte, n int, bytes []byte, get func(s string)) {
	text := make([]byte, 1+n)
	text[0] = first
	var fill func(at int)
	fill = func(at int) {
		if at == len(text) {
			get(string(text))
			return
		}
		for _, b := range bytes {
			text[at] = b
			fill(at + 1)
		}
	}
	fill(1)
}

func TestAllShortTexts(t *testing.T) {
	all := make([]byte, 256)
	for b := range all {
		all[b] = byte(b)
	}
	for first := range 256 {
		walk(byte(first), 0, all, func(s string) { holdNoText(t, s) })
		walk(byte(first), 1, all, func(s string) { holdNoText(t, s) })
	}
	for _, c := range []struct {
		first byte
		n     int
		bytes []byte
		texts int
	}{
		{0, 3, []byte{0, 1, 2, 3, 4, 5, 127, 128, 254, 255}, 0},
		{1, 3, []byte{0, 1, 2, 3, 4, 5, 127, 128, 254, 255}, 3 * 2},
		{2, 3, []byte{0, 1, 2, 3, 4, 5, 127, 128, 254, 255}, 0},
		{1, 4, []byte{0, 1, 2, 3, 4, 5}, 0},
		{1, 5, []byte{0, 1, 2, 3, 4, 5}, 0},
		{1, 6, []byte{0, 1, 2, 3, 4, 5}, 0},
		// The first one is a list or a struct, the second one a leaf of three kinds.
		{2, 6, []byte{0, 1, 2, 3, 4, 5, 255}, 2 * 3 * 4},
		{3, 6, []byte{0, 1, 2, 3, 4, 5}, 0},
		{2, 7, []byte{0, 1, 3, 4}, 0},
	} {
		texts := 0
		walk(c.first, c.n, c.bytes, func(s string) {
			if hold(t, s) {
				texts++
			}
		})
		if texts != c.texts {
			t.Errorf("P6.1: %d texts of %d and %d bytes are types'; want %d", texts, c.first, c.n, c.texts)
		}
	}
}

// mixed gives get types that hang right but for their depths and how many kids there are, and some that do not.
func mixed(times int, get func(x api.Type, s string)) {
	state := uint32(1)
	next := func(n int) int {
		state = state*1664525 + 1013904223
		return int(state>>16) % n
	}
	for range times {
		x := typeOf(api.Node{Kind: 3 + next(2), Parent: -1, Null: next(2) == 0})
		for n := 2 + next(8); len(x.Nodes) < n; {
			x.Nodes = append(x.Nodes, api.Node{Kind: next(5), Parent: next(len(x.Nodes)), Null: next(2) == 0})
		}
		s := []byte{byte(len(x.Nodes))}
		for _, n := range x.Nodes {
			s = append(s, byte(n.Kind), byte(n.Parent+1), 0)
			if n.Null {
				s[len(s)-1] = 1
			}
		}
		get(x, string(s))
	}
}

func TestMixed(t *testing.T) {
	may := map[int]int{}
	mixed(100000, func(x api.Type, s string) {
		if !hold(t, s) {
			holdNoType(t, x)
			return
		}
		may[len(x.Nodes)]++
		holdPut(t, x, s)
	})
	if may[7] == 0 || may[8] == 0 || may[9] != 0 {
		t.Errorf("P6.1: how many types of how many nodes: %v", may)
	}
}

// R4: the type that was handed in reads as it did, its list's spare room too.
func TestHandedInStays(t *testing.T) {
	for _, nodes := range [][]api.Node{
		{row(-1), list(0), leaf(1, 0), null(leaf(2, 1))},
		{row(-1), list(0), leaf(1, 0), null(leaf(2, 3))},
	} {
		room := append(slices.Clone(nodes), leaf(0, 1), null(list(0)), api.Node{Kind: 77, Parent: 88})
		before := slices.Clone(room)
		Put(api.Type{Nodes: room[:len(nodes)]})
		if !slices.Equal(room, before) {
			t.Errorf("R4: %v became %v", before, room)
		}
	}
}

// spoil writes all over a type, its list's spare room too.
func spoil(x api.Type) {
	all := x.Nodes[:cap(x.Nodes)]
	for i := range all {
		all[i] = api.Node{Kind: 99, Parent: 99, Null: true}
	}
}

// R4: a type that Get answered can be written to, and no other answer is changed.
func TestAnswersAreNew(t *testing.T) {
	for _, p := range pairs() {
		first, _ := Get(p.text)
		second, _ := Get(p.text)
		spoil(first)
		if !slices.Equal(second.Nodes, p.x.Nodes) {
			t.Errorf("R4: an earlier answer is %v; want %v", second, p.x)
		}
		holdPut(t, p.x, p.text)
		holdNoText(t, p.text[1:])
		holdPut(t, second, p.text)
	}
}

// R4: nothing of a type is kept: another one in the same memory is told as it is.
func TestNothingIsKept(t *testing.T) {
	x := typeOf(row(-1), leaf(0, 0), leaf(1, 0))
	text, _ := Put(x)
	x.Nodes[0], x.Nodes[1], x.Nodes[2] = list(-1), null(list(0)), leaf(2, 1)
	holdPut(t, x, "\x03\x03\x00\x00\x03\x01\x01\x02\x02\x00")
	x.Nodes[2].Parent = 2
	holdNoType(t, x)
	if want := "\x03\x04\x00\x00\x00\x01\x00\x01\x01\x00"; text != want {
		t.Errorf("R4: an answer became %q; want %q", text, want)
	}
}

// R5: the same answers from several goroutines at one time, of one type.
func TestAtOneTime(t *testing.T) {
	shared := pairs()
	var wait sync.WaitGroup
	for range 8 {
		wait.Go(func() {
			for range 100 {
				for _, p := range shared {
					holdPut(t, p.x, p.text)
					holdNoText(t, p.text[1:])
				}
			}
		})
	}
	wait.Wait()
}
