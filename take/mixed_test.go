package take

import (
	"fmt"
	"reflect"
	"slices"
	"testing"

	"quiver/api"
	"quiver/array"
	"quiver/build"
	"quiver/read"
)

// maker makes types, and arrays of their nodes together with what their rows are, by a row of numbers that look like chance.
type maker struct {
	api.Type
	seed uint64
}

func (m *maker) next(n int) int {
	m.seed = m.seed*6364136223846793005 + 1442695040888963407
	return int(m.seed >> 33 % uint64(n))
}

// bytes are so many, by chance.
func (m *maker) bytes(n int) string {
	out := make([]byte, n)
	for i := range out {
		out[i] = byte(m.next(256))
	}
	return string(out)
}

// rising are count numbers from 0 to most that do not fall.
func (m *maker) rising(count int, most int) []int {
	var xs []int
	for range count {
		xs = append(xs, m.next(most+1))
	}
	slices.Sort(xs)
	return xs
}

// retype makes another type: what may have kids has one.
func (m *maker) retype() {
	m.Nodes = nil
	var add func(parent int, depth int)
	add = func(parent int, depth int) {
		n := api.Node{Kind: m.next(5), Parent: parent, Null: m.next(2) == 0}
		if depth == api.MaxDepth || len(m.Nodes) >= 4 {
			n.Kind = m.next(3)
		}
		at := len(m.Nodes)
		m.Nodes = append(m.Nodes, n)
		for kids := 0; n.Kind >= api.KindList && kids == 0 || n.Kind == api.KindStruct && len(m.Nodes) < 4 && m.next(2) == 0; kids++ {
			add(at, depth+1)
		}
	}
	add(-1, 0)
}

// below are a node's kids.
func (m *maker) below(at int) []int {
	var kids []int
	for i, n := range m.Nodes {
		if n.Parent == at {
			kids = append(kids, i)
		}
	}
	return kids
}

// array makes one of a node, in any layout, with so many rows and, where there is room, some ahead of them.
func (m *maker) array(at int, length int) (api.Array, []string) {
	a := api.Array{Offset: m.next(min(4, 65-length)), Length: length}
	if m.Nodes[at].Kind < api.KindList {
		a.Layout = m.next(3)
	}
	var vs []string
	switch a.Layout {
	case api.LayoutDict:
		a, vs = m.dict(at, a)
	case api.LayoutRun:
		a, vs = m.run(at, a)
	default:
		a, vs = m.plain(at, a, true)
	}
	return a, vs[a.Offset:]
}

// valid makes bits for rows, by chance, and tells nothing of those that are 0.
func (m *maker) valid(at int, vs []string) string {
	if !m.Nodes[at].Null || m.next(3) == 0 {
		return ""
	}
	valid := m.bytes((len(vs)+7)/8 + m.next(2))
	for i := range vs {
		if valid[i/8]>>(i%8)&1 == 0 {
			vs[i] = "n"
		}
	}
	return valid
}

// dict makes an array with so many rows by a dictionary.
func (m *maker) dict(at int, a api.Array) (api.Array, []string) {
	once, words := m.plain(at, api.Array{Offset: m.next(3), Length: 1 + m.next(5)}, false)
	vs := make([]string, a.Offset+a.Length)
	a.Kids, a.Valid = []api.Array{once}, m.valid(at, vs)
	for i := range vs {
		if vs[i] == "n" || i < a.Offset && m.next(2) == 0 {
			a.Data += m.bytes(4)
			continue
		}
		number := m.next(once.Length)
		a.Data += fours(number)
		vs[i] = words[once.Offset+number]
	}
	a.Data += m.bytes(m.next(6))
	return a, vs
}

// run makes an array with so many rows by runs.
func (m *maker) run(at int, a api.Array) (api.Array, []string) {
	var ends []int
	last, n := 0, a.Offset+a.Length
	for last < n || m.next(4) == 0 {
		last += 1 + m.next(4)
		ends = append(ends, last)
	}
	once, words := m.plain(at, api.Array{Offset: m.next(min(3, 65-len(ends))), Length: len(ends)}, true)
	a.Kids, a.Data = []api.Array{once}, fours(ends...)
	var vs []string
	for i, end := range ends {
		for len(vs) < min(end, n) {
			vs = append(vs, words[once.Offset+i])
		}
	}
	return a, vs
}

// plain makes an array with so many rows as they are; which ones may be nothing, if it may have bits.
func (m *maker) plain(at int, a api.Array, bits bool) (api.Array, []string) {
	n := a.Offset + a.Length
	vs := make([]string, n)
	switch m.Nodes[at].Kind {
	case api.KindInt:
		for i := range n {
			x := []int{m.next(3), -1 - m.next(1000), least, greatest, m.next(1<<31) << 20}[m.next(5)]
			a.Data += eights(x)
			vs[i] = fmt.Sprintf("i%d;", x)
		}
		a.Data += m.bytes(m.next(9))
	case api.KindBool:
		a.Data = m.bytes((n+7)/8 + m.next(2))
		for i := range n {
			vs[i] = string("ft"[a.Data[i/8]>>(i%8)&1])
		}
	case api.KindBytes:
		a.Data = m.bytes(m.next(3))
		a.Ends = fours(len(a.Data))
		for i := range n {
			s := m.bytes([]int{0, 1, m.next(17), 16}[m.next(4)])
			a.Data += s
			a.Ends += fours(len(a.Data))
			vs[i] = fmt.Sprintf("s%d:%s", len(s), s)
		}
		a.Data, a.Ends = a.Data+m.bytes(m.next(3)), a.Ends+m.bytes(m.next(6))
	case api.KindList:
		kid, ws := m.array(m.below(at)[0], m.next(min(2*n, 64)+1))
		ends := m.rising(n+1, kid.Length)
		a.Kids, a.Ends = []api.Array{kid}, fours(ends...)+m.bytes(m.next(6))
		for i := range n {
			vs[i] = listed(ws[ends[i]:ends[i+1]])
		}
	default:
		for _, below := range m.below(at) {
			kid, ws := m.array(below, min(n+m.next(3), 64))
			a.Kids = append(a.Kids, kid)
			for i := range n {
				vs[i] += ws[i]
			}
		}
		for i := range n {
			vs[i] = "{" + vs[i] + "}"
		}
	}
	if bits {
		a.Valid = m.valid(at, vs)
	}
	return a, vs
}

// turned is an array with one thing in it, or in one below it, turned by chance.
func (m *maker) turned(a api.Array) api.Array {
	a.Kids = slices.Clone(a.Kids)
	if len(a.Kids) > 0 && m.next(2) == 0 {
		i := m.next(len(a.Kids))
		a.Kids[i] = m.turned(a.Kids[i])
		return a
	}
	text := []*string{&a.Valid, &a.Ends, &a.Data}[m.next(3)]
	switch m.next(8) {
	case 0:
		a.Offset += m.next(3) - 1
	case 1:
		a.Length += m.next(3) - 1
	case 2:
		a.Layout = m.next(4)
	case 3:
		*text = (*text)[:m.next(len(*text)+1)]
	case 4:
		*text += m.bytes(1 + m.next(9))
	case 5:
		a.Kids = append(a.Kids, api.Array{})
	default:
		if at := m.next(len(*text) + 1); at < len(*text) {
			*text = (*text)[:at] + m.bytes(1) + (*text)[at+1:]
		}
	}
	return a
}

// pile makes an array of a node, in any layout, often a small one.
func (m *maker) pile(at int) pile {
	a, vs := m.array(at, []int{m.next(4), m.next(20), 24 + m.next(20)}[m.next(3)])
	return pile{a, vs}
}

// rows makes numbers of some of length rows.
func (m *maker) rows(length int) []int {
	var rows []int
	for range m.next([]int{4, 30, 90}[m.next(3)]) {
		if length > 0 {
			rows = append(rows, m.next(length))
		}
	}
	return rows
}

// holdOrRefuse holds what is told of a pile's rows, if layer 10 builds them, else that it is ErrTakeFull; it tells which.
func holdOrRefuse(t *testing.T, x api.Type, at int, p pile, rows []int) bool {
	t.Helper()
	_, e := build.Build(x, at, chosen(p.vs, rows))
	if e == api.OK {
		holdAt(t, x, at, p, rows...)
	} else {
		refuseAt(t, x, at, p.a, api.ErrTakeFull, rows...)
	}
	return e == api.OK
}

func TestMixed(t *testing.T) {
	m := &maker{seed: 13}
	held, full := map[string]int{}, 0
	for range 10000 {
		m.retype()
		at := m.next(len(m.Nodes))
		p := m.pile(at)
		was := whole(p.a)
		for range 3 {
			rows := m.rows(len(p.vs))
			ok := holdOrRefuse(t, m.Type, at, p, rows)
			if ok {
				held[fmt.Sprintf("kind %d in layout %d", m.Nodes[at].Kind, p.a.Layout)]++
			} else {
				full++
			}
			outside := append(rows, []int{-1, len(p.vs), least, greatest, 64}[m.next(5)], 0)
			refuseAt(t, m.Type, at, p.a, api.ErrTakeRange, outside[m.next(len(rows)+1):]...)
			if t.Failed() {
				return
			}
		}
		if !reflect.DeepEqual(was, whole(p.a)) {
			t.Fatalf("R4: an array was changed: %s; was %s", told(p.a), told(was))
		}
	}
	for kind := range 5 {
		for layout := range 3 {
			name := fmt.Sprintf("kind %d in layout %d", kind, layout)
			if (layout == 0 || kind < api.KindList) && held[name] < 300 {
				t.Errorf("P13.1: only %d were held of %s", held[name], name)
			}
		}
	}
	if full < 1000 {
		t.Errorf("P13.1: only %d were full", full)
	}
}

// Rows of rows.
func TestMixedTwice(t *testing.T) {
	m := &maker{seed: 130}
	held := 0
	for range 5000 {
		m.retype()
		at := m.next(len(m.Nodes))
		p := m.pile(at)
		rows := m.rows(len(p.vs))
		again := m.rows(len(rows))
		_, e := build.Build(m.Type, at, chosen(p.vs, rows))
		_, f := build.Build(m.Type, at, chosen(chosen(p.vs, rows), again))
		if e == api.OK && f == api.OK {
			held++
			holdTwice(t, m.Type, at, p, rows, again)
		}
		if t.Failed() {
			return
		}
	}
	if held < 1000 {
		t.Errorf("P13.1: only %d were held", held)
	}
}

// Just of what may be rows are taken; they are what layer 9 tells of it.
func TestMixedAndTurned(t *testing.T) {
	m := &maker{seed: 1300}
	held := map[bool]int{}
	for range 5000 {
		m.retype()
		at := m.next(len(m.Nodes))
		p := m.pile(at)
		p.a = m.turned(p.a)
		may := array.May(m.Type, at, p.a)
		held[may]++
		if may {
			p.vs, _ = read.Values(m.Type, at, p.a)
			holdOrRefuse(t, m.Type, at, p, m.rows(len(p.vs)))
			refuseRange(t, m.Type, at, p.a, len(p.vs))
		} else {
			refuseForm(t, m.Type, at, p.a)
		}
		if t.Failed() {
			return
		}
	}
	if held[true] < 1000 || held[false] < 1000 {
		t.Errorf("P13.1: only %v were held", held)
	}
}
