package build

import (
	"fmt"
	"slices"
	"strings"
	"testing"

	"quiver/api"
	"quiver/array"
	"quiver/read"
	"quiver/value"
)

// thing is a value ahead of its text.
type thing struct {
	nothing bool
	x       int
	on      bool
	s       string
	in      []thing
}

// maker makes types, and things of their nodes, by a row of numbers that look like chance.
type maker struct {
	api.Type
	seed uint64
}

func (m *maker) next(n int) int {
	m.seed = m.seed*6364136223846793005 + 1442695040888963407
	return int(m.seed >> 33 % uint64(n))
}

// bytes are so many, by chance.
func (m *maker) bytes(n int) string {
	out := make([]byte, n)
	for i := range out {
		out[i] = byte(m.next(256))
	}
	return string(out)
}

// retype makes another type: what may have kids has one.
func (m *maker) retype() {
	m.Nodes = nil
	var add func(parent int, depth int)
	add = func(parent int, depth int) {
		n := api.Node{Kind: m.next(5), Parent: parent, Null: m.next(2) == 0}
		if depth == api.MaxDepth || len(m.Nodes) >= 4 {
			n.Kind = m.next(3)
		}
		at := len(m.Nodes)
		m.Nodes = append(m.Nodes, n)
		for kids := 0; n.Kind >= api.KindList && kids == 0 || n.Kind == api.KindStruct && len(m.Nodes) < 4 && m.next(2) == 0; kids++ {
			add(at, depth+1)
		}
	}
	add(-1, 0)
}

// below are a node's kids.
func (m *maker) below(at int) []int {
	var kids []int
	for i, n := range m.Nodes {
		if n.Parent == at {
			kids = append(kids, i)
		}
	}
	return kids
}

// thing makes one of a node.
func (m *maker) thing(at int) thing {
	if m.Nodes[at].Null && m.next(3) == 0 {
		return thing{nothing: true}
	}
	v := thing{}
	switch m.Nodes[at].Kind {
	case api.KindInt:
		v.x = []int{m.next(3), -1 - m.next(1000), least, greatest, m.next(1<<31) << 20}[m.next(5)]
	case api.KindBool:
		v.on = m.next(2) == 0
	case api.KindBytes:
		v.s = []string{"a", m.bytes(m.next(17)), m.bytes(16), "", ";]}n"}[m.next(5)]
	case api.KindList:
		v.in = m.things(m.below(at)[0], []int{0, 1, 2, 3, m.next(20)}[m.next(5)])
	default:
		for _, kid := range m.below(at) {
			v.in = append(v.in, m.thing(kid))
		}
	}
	return v
}

// things makes so many of a node, some of them again and again.
func (m *maker) things(at int, count int) []thing {
	var vs []thing
	for len(vs) < count {
		if len(vs) > 0 && m.next(3) == 0 {
			vs = append(vs, vs[len(vs)-1])
		} else {
			vs = append(vs, m.thing(at))
		}
	}
	return vs
}

// text tells a thing of a node.
func (m *maker) text(at int, v thing) string {
	if v.nothing {
		return "n"
	}
	var in []string
	kids := m.below(at)
	for i, one := range v.in {
		in = append(in, m.text(kids[i%len(kids)], one))
	}
	switch m.Nodes[at].Kind {
	case api.KindInt:
		return fmt.Sprintf("i%d;", v.x)
	case api.KindBool:
		return truthOf(v.on)
	case api.KindBytes:
		return fmt.Sprintf("s%d:%s", len(v.s), v.s)
	case api.KindList:
		return "[" + strings.Join(in, "") + "]"
	}
	return "{" + strings.Join(in, "") + "}"
}

// texts tells things of a node.
func (m *maker) texts(at int, vs []thing) []string {
	return many(len(vs), func(i int) string { return m.text(at, vs[i]) })
}

// zero is what a node has within nothing.
func (m *maker) zero(at int) thing { return thing{nothing: m.Nodes[at].Null} }

// there are bits of which things are not nothing.
func there(vs []thing) string {
	var ons []bool
	for _, v := range vs {
		ons = append(ons, !v.nothing)
	}
	return packed(ons...)
}

// column is of each struct among vs what it has for one kid; of one that has nothing within, the kid's zero.
func (m *maker) column(kid int, i int, vs []thing) []thing {
	var out []thing
	for _, v := range vs {
		if len(v.in) == 0 {
			out = append(out, m.zero(kid))
		} else {
			out = append(out, v.in[i])
		}
	}
	return out
}

// values lays the values of a leaf down, but for which ones are nothing.
func (m *maker) values(at int, vs []thing) api.Array {
	var xs []int
	var ons []bool
	var ss []string
	for _, v := range vs {
		xs, ons, ss = append(xs, v.x), append(ons, v.on), append(ss, v.s)
	}
	return []api.Array{numbers(xs...), truths(len(vs), packed(ons...)), texts(ss...)}[m.Nodes[at].Kind]
}

// laid lays things down as the chapter says; false, if that would be too many in one array.
func (m *maker) laid(at int, vs []thing) (api.Array, bool) {
	a, ok := api.Array{Length: len(vs)}, len(vs) <= api.MaxRows
	var kids [][]thing
	switch m.Nodes[at].Kind {
	case api.KindList:
		var all []thing
		ends := []int{0}
		for _, v := range vs {
			all = append(all, v.in...)
			ends = append(ends, len(all))
		}
		a.Ends, kids = fours(ends...), [][]thing{all}
	case api.KindStruct:
		for i, kid := range m.below(at) {
			kids = append(kids, m.column(kid, i, vs))
		}
	default:
		a = m.values(at, vs)
	}
	if slices.ContainsFunc(vs, func(v thing) bool { return v.nothing }) {
		a.Valid = there(vs)
	}
	for i, kid := range kids {
		one, is := m.laid(m.below(at)[i], kid)
		a.Kids, ok = append(a.Kids, one), ok && is
	}
	return a, ok
}

// spread lays things down in any layout, some rows ahead of them; it may be that these are too many for an array.
func (m *maker) spread(at int, vs []thing) api.Array {
	ahead := m.next(3)
	all := append(m.things(at, ahead), vs...)
	var a api.Array
	switch layout := m.next(3); {
	case m.Nodes[at].Kind == api.KindList:
		a = m.listed(at, all)
	case m.Nodes[at].Kind == api.KindStruct:
		a.Length = len(all)
		for i, kid := range m.below(at) {
			// What a kid has of a struct that is nothing may be anything.
			a.Kids = append(a.Kids, m.spread(kid, append(m.column(kid, i, all), m.things(kid, m.next(2))...)))
		}
	case layout == api.LayoutDict:
		a = m.dict(at, all)
	case layout == api.LayoutRun:
		a = m.run(at, all)
	default:
		a = m.values(at, all)
		a.Data += m.bytes(m.next(4))
	}
	nothing := slices.ContainsFunc(all, func(v thing) bool { return v.nothing })
	if a.Layout != api.LayoutRun && (nothing || m.Nodes[at].Null && m.next(2) == 0) {
		a.Valid = there(all) + m.bytes(m.next(2))
	}
	a.Offset, a.Length = ahead, len(vs)
	return a
}

// listed lays lists down, their values behind some that no list has.
func (m *maker) listed(at int, vs []thing) api.Array {
	kid := m.below(at)[0]
	all := m.things(kid, m.next(2))
	ends := []int{len(all)}
	for _, v := range vs {
		all = append(all, v.in...)
		ends = append(ends, len(all))
	}
	return lists(m.spread(kid, all), ends...)
}

// dict lays things down by a dictionary.
func (m *maker) dict(at int, vs []thing) api.Array {
	// It may be that no row has the first word.
	words := []thing{{x: m.next(2), s: "z"}}
	var xs []int
	for _, v := range vs {
		i := slices.IndexFunc(words, func(w thing) bool { return m.text(at, w) == m.text(at, v) })
		if i < 0 && !v.nothing {
			i, words = len(words), append(words, v)
		}
		xs = append(xs, i)
	}
	return api.Array{Layout: api.LayoutDict, Data: fours(xs...) + m.bytes(m.next(2)), Kids: []api.Array{m.values(at, words)}}
}

// run lays things down by runs, some shorter than they might be.
func (m *maker) run(at int, vs []thing) api.Array {
	var once []thing
	var ends []int
	for i, v := range vs {
		if i > 0 && m.text(at, v) == m.text(at, vs[i-1]) && m.next(4) > 0 {
			ends[len(ends)-1]++
			continue
		}
		once, ends = append(once, v), append(ends, i+1)
	}
	kid := m.values(at, once)
	if slices.ContainsFunc(once, func(v thing) bool { return v.nothing }) {
		kid.Valid = there(once)
	}
	return api.Array{Layout: api.LayoutRun, Data: fours(ends...), Kids: []api.Array{kid}}
}

func TestMixed(t *testing.T) {
	m := &maker{seed: 10}
	held, full := [5]int{}, 0
	for range 12000 {
		m.retype()
		at := m.next(len(m.Nodes))
		vs := m.things(at, []int{m.next(4), m.next(20), 60 + m.next(8)}[m.next(3)])
		want, ok := m.laid(at, vs)
		if ok {
			held[m.Nodes[at].Kind]++
			holdAt(t, m.Type, at, want, m.texts(at, vs)...)
		} else {
			full++
			refuseAt(t, m.Type, at, api.ErrBuildFull, m.texts(at, vs)...)
		}
		if t.Failed() {
			return
		}
	}
	if slices.Min(held[:]) < 500 || full < 1000 {
		t.Errorf("P10.1: only %v were held, %d were full", held, full)
	}
}

// What is built of what an array is read as reads the same, and is laid down the same, for arrays of each layout.
func TestMixedLayouts(t *testing.T) {
	m := &maker{seed: 100}
	held := map[string]int{}
	var count func(at int, a api.Array)
	count = func(at int, a api.Array) {
		held[fmt.Sprintf("kind %d in layout %d", m.Nodes[at].Kind, a.Layout)]++
		for i, kid := range m.below(at) {
			count(kid, a.Kids[i])
		}
	}
	for range 12000 {
		m.retype()
		at := m.next(len(m.Nodes))
		vs := m.things(at, m.next(12))
		a := m.spread(at, vs)
		want, ok := m.laid(at, vs)
		if !ok || !array.May(m.Type, at, a) {
			continue
		}
		back, e := read.Values(m.Type, at, a)
		if !slices.Equal(back, m.texts(at, vs)) || e != api.OK {
			t.Fatalf("at node %d of %v: %s was made of %s", at, m.Type, short(a), short(back))
		}
		holdAt(t, m.Type, at, want, back...)
		if t.Failed() {
			return
		}
		count(at, a)
	}
	for kind := range 5 {
		for layout := range 3 {
			name := fmt.Sprintf("kind %d in layout %d", kind, layout)
			if (layout == 0 || kind < api.KindList) && held[name] < 500 {
				t.Errorf("P10.2: only %d were held of %s", held[name], name)
			}
		}
	}
}

// turned is texts with one of them turned by chance.
func (m *maker) turned(vs []string) []string {
	out := slices.Clone(vs)
	i := m.next(len(out))
	v := out[i]
	from := m.next(len(v) + 1)
	to := min(len(v), from+m.next(3))
	out[i] = v[:from] + []string{"", "n", "t", "i7;", "s0:", "[", "]", "{", "}", "1", "-", m.bytes(1)}[m.next(12)] + v[to:]
	return out
}

// Just what fits is built, and what is built is read as just what it was built of.
func TestMixedAndTurned(t *testing.T) {
	m := &maker{seed: 1000}
	held := map[bool]int{}
	for range 12000 {
		m.retype()
		at := m.next(len(m.Nodes))
		vs := m.turned(m.texts(at, m.things(at, 1+m.next(5))))
		fits := !slices.ContainsFunc(vs, func(v string) bool { return !value.Fits(m.Type, at, v) })
		held[fits]++
		if !fits {
			refuseAt(t, m.Type, at, api.ErrBuildForm, vs...)
		} else if a, e := Build(m.Type, at, vs); e != api.ErrBuildFull {
			holdAt(t, m.Type, at, a, vs...)
		}
		if t.Failed() {
			return
		}
	}
	if held[true] < 1000 || held[false] < 1000 {
		t.Errorf("P10.1: only %v were held", held)
	}
}
