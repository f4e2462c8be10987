package value

import (
	"fmt"
	"math"
	"math/big"
	"regexp"
	"slices"
	"strconv"
	"strings"
	"sync"
	"testing"

	"quiver/api"
)

const (
	least    = math.MinInt
	greatest = math.MaxInt
)

// signs are all that values are written with, and some that they are not.
const signs = "nitfs[]{}:;-+0123456789 x_\x00\x7f\x80\xff"

// rnd is a row of numbers.
type rnd uint64

func (r *rnd) next(n int) int {
	*r = *r*6364136223846793005 + 1442695040888963407
	return int(uint64(*r) >> 33 % uint64(n))
}

func (r *rnd) pick(xs ...string) string { return xs[r.next(len(xs))] }

// short is v, or the beginning of it if it is long.
func short(v string) string { return v[:min(len(v), 60)] }

func TestNothing(t *testing.T) {
	if got := Null(); got != "n" {
		t.Errorf("P7.1: nothing: %q", got)
	}
}

func TestNumbers(t *testing.T) {
	for x, want := range map[int]string{
		0: "i0;", 1: "i1;", 9: "i9;", 10: "i10;", 100: "i100;", 1234567890: "i1234567890;",
		-1: "i-1;", -9: "i-9;", -10: "i-10;", -100: "i-100;", -1234567890: "i-1234567890;",
		math.MaxInt32: "i2147483647;", math.MinInt32: "i-2147483648;",
		greatest: "i9223372036854775807;", greatest - 1: "i9223372036854775806;",
		least: "i-9223372036854775808;", least + 1: "i-9223372036854775807;",
	} {
		if got := Int(x); got != want {
			t.Errorf("P7.1: the number %d: %q; want %q", x, got, want)
		}
	}
	for x := -2000; x <= 2000; x++ {
		if got, want := Int(x), fmt.Sprintf("i%d;", x); got != want {
			t.Errorf("P7.1: the number %d: %q; want %q", x, got, want)
		}
	}
}

func TestTruths(t *testing.T) {
	if on, off := Bool(true), Bool(false); on != "t" || off != "f" {
		t.Errorf("P7.1: truths: %q, %q", on, off)
	}
}

func TestBytes(t *testing.T) {
	for s, want := range map[string]string{
		"": "s0:", "a": "s1:a", "123456789": "s9:123456789", "1234567890": "s10:1234567890",
		"\x00": "s1:\x00", "\xff\x80": "s2:\xff\x80", "ä": "s2:\xc3\xa4",
		":": "s1::", "n": "s1:n", "i5;": "s3:i5;", "s1:a": "s4:s1:a", "[]{}": "s4:[]{}", "-0": "s2:-0",
	} {
		if got := Bytes(s); got != want {
			t.Errorf("P7.1: the bytes %q: %q; want %q", s, got, want)
		}
	}
	for _, n := range []int{16, 17, 99, 100, 255, 256, 999, 1000, 65535, 65536, 100000} {
		s := strings.Repeat("\xfe", n)
		if got := Bytes(s); got != "s"+strconv.Itoa(n)+":"+s {
			t.Errorf("P7.1: %d bytes: %q", n, short(got))
		}
	}
	for b := range 256 {
		s := string([]byte{byte(b)})
		if got := Bytes(s); got != "s1:"+s {
			t.Errorf("P7.1: the byte %d: %q", b, got)
		}
	}
}

func TestNests(t *testing.T) {
	for _, c := range []struct {
		vs   []string
		want string
	}{
		{nil, ""}, {[]string{}, ""}, {[]string{""}, ""}, {[]string{"", ""}, ""},
		{[]string{"n"}, "n"}, {[]string{"n", "t", "f"}, "ntf"}, {[]string{"i5;", "s1:a", "[]", "{n}"}, "i5;s1:a[]{n}"},
		{[]string{"[[[[n]]]]"}, "[[[[n]]]]"},
		// Whatever they are.
		{[]string{"x"}, "x"}, {[]string{"]", "[", "}"}, "][}"}, {[]string{"i", "5", ";"}, "i5;"}, {[]string{"\xff", "", "\x00"}, "\xff\x00"},
		{slices.Repeat([]string{"ab"}, 70000), strings.Repeat("ab", 70000)},
	} {
		if got := List(c.vs); got != "["+c.want+"]" {
			t.Errorf("P7.1: a list of %d: %q; want of %q", len(c.vs), short(got), short(c.want))
		}
		if got := Struct(c.vs); got != "{"+c.want+"}" {
			t.Errorf("P7.1: a struct of %d: %q; want of %q", len(c.vs), short(got), short(c.want))
		}
	}
}

// token is what may stand at a text's beginning: a value that holds none, bytes' head, or a sign that opens or closes.
var token = regexp.MustCompile(`^(?:[ntf\[\]{}]|i(?:0|-?[1-9][0-9]*);|s(?:0|[1-9][0-9]*):)`)

// isBetween tells whether the digits, told in any number of bits, are of a number from low to high.
func isBetween(digits string, low int64, high int64) bool {
	x, ok := new(big.Int).SetString(digits, 10)
	return ok && x.Cmp(big.NewInt(low)) >= 0 && x.Cmp(big.NewInt(high)) <= 0
}

// known is what is known of a text from its tokens and a row of those that are open.
type known struct {
	kind  int
	parts []string
}

// know tells what a value is; false, if v is none.
func know(v string) (known, bool) {
	var k known
	var open []byte
	at, begun := 0, 1
	for {
		word := token.FindString(v[at:])
		if word == "" || len(v) > 65536 {
			return known{}, false
		}
		sign, inner := word[0], word[1:]
		if sign == ']' || sign == '}' {
			if len(open) == 0 || open[len(open)-1] != sign {
				return known{}, false
			}
			open = open[:len(open)-1]
		} else if len(open) > 4 {
			return known{}, false
		}
		at += len(word)
		if at == len(word) {
			k.kind = map[byte]int{'n': -1, 'i': 0, 't': 1, 'f': 1, 's': 2, '[': 3, '{': 4}[sign]
		}
		switch sign {
		case 'i':
			if !isBetween(inner[:len(inner)-1], math.MinInt64, math.MaxInt64) {
				return known{}, false
			}
		case 's':
			if !isBetween(inner[:len(inner)-1], 0, int64(len(v)-at)) {
				return known{}, false
			}
			n, _ := strconv.Atoi(inner[:len(inner)-1])
			at += n
		case '[':
			open = append(open, ']')
		case '{':
			open = append(open, '}')
		}
		if len(open) == 1 && at > 1 {
			k.parts = append(k.parts, v[begun:at])
			begun = at
		}
		if len(open) == 0 {
			break
		}
	}
	switch k.kind {
	case 0:
		k.parts = []string{v[1 : at-1]}
	case 1:
		k.parts = []string{v[:1]}
	case 2:
		k.parts = []string{v[strings.IndexByte(v, ':')+1 : at]}
	}
	return k, at == len(v)
}

// again is the value that the makers tell of a kind and its parts.
func again(t *testing.T, kind int, parts []string) string {
	t.Helper()
	switch kind {
	case -1:
		return Null()
	case api.KindInt:
		x, err := strconv.Atoi(parts[0])
		if err != nil {
			t.Errorf("P7.2: %q are no digits", parts[0])
		}
		return Int(x)
	case api.KindBool:
		return Bool(parts[0] == "t")
	case api.KindBytes:
		return Bytes(parts[0])
	case api.KindList:
		return List(parts)
	}
	return Struct(parts)
}

// holdParts holds that v is a value of this kind and of these parts.
func holdParts(t *testing.T, v string, kind int, parts ...string) {
	t.Helper()
	gotKind, got, e := Parts(v)
	if gotKind != kind || !slices.Equal(got, parts) || e != api.OK {
		t.Errorf("P7.2: parts of %q: %d, %d of them, %d; want %d, %d of them", short(v), gotKind, len(got), e, kind, len(parts))
		return
	}
	if made := again(t, gotKind, got); made != v {
		t.Errorf("P7.2: parts of %q, made one again: %q", short(v), short(made))
	}
}

// holdNone holds that v is no value.
func holdNone(t *testing.T, v string) {
	t.Helper()
	if kind, parts, e := Parts(v); kind != 0 || len(parts) != 0 || e != api.ErrValueForm {
		t.Errorf("P7.2: parts of %q (%d bytes): %d, %q, %d; want none, %d", short(v), len(v), kind, parts, e, api.ErrValueForm)
	}
	if _, ok := know(v); ok {
		t.Errorf("%q is one", short(v))
	}
}

// hold holds what is told of v against what is known of it, and tells whether it is a value.
func hold(t *testing.T, v string) bool {
	t.Helper()
	k, ok := know(v)
	if !ok {
		holdNone(t, v)
		return false
	}
	holdParts(t, v, k.kind, k.parts...)
	return true
}

// samples are values of each kind.
func samples() []string {
	return []string{
		"n", "t", "f", "i0;", "i7;", "i-7;", "i120;", "i-9223372036854775808;", "i9223372036854775807;",
		"s0:", "s1:a", "s3:]};", "s9:123456789", "s10:1234567890", "s2:\xff\x00", "s4:s1:a", "s2:i5", "s12:nitfs[]{}:;-",
		"[]", "[n]", "[[]]", "[{}]", "[nn]", "[tf]", "[i1;i-1;]", "[s0:s1:]s0:]", "[s2:[[]",
		"{}", "{n}", "{{}}", "{[]}", "{ti5;s1:}n}", "{[i0;][]n[i1;i2;]}",
		"[[[[n]]]]", "{{{{n}}}}", "[{[{i5;}]}n]", "[[[[]]]]", "[[[[[]]]]]", "{{{{{}}}}}", "{n[{s5:[{[{[f}]t}",
	}
}

func TestPartsOfEach(t *testing.T) {
	holdParts(t, "n", -1)
	holdParts(t, "t", api.KindBool, "t")
	holdParts(t, "f", api.KindBool, "f")
	for _, digits := range []string{"0", "5", "-5", "10", "-10", "2147483648", "9223372036854775807", "-9223372036854775808"} {
		holdParts(t, "i"+digits+";", api.KindInt, digits)
	}
	holdParts(t, "s0:", api.KindBytes, "")
	holdParts(t, "s1:a", api.KindBytes, "a")
	holdParts(t, "s9:123456789", api.KindBytes, "123456789")
	holdParts(t, "s10:1234567890", api.KindBytes, "1234567890")
	holdParts(t, "s17:12345678901234567", api.KindBytes, "12345678901234567")
	holdParts(t, "s4:s1:n", api.KindBytes, "s1:n")
	holdParts(t, "s5:\x00\x80\xff];", api.KindBytes, "\x00\x80\xff];")
	holdParts(t, "[]", api.KindList)
	holdParts(t, "{}", api.KindStruct)
	holdParts(t, "[n]", api.KindList, "n")
	holdParts(t, "{n}", api.KindStruct, "n")
	holdParts(t, "[nti5;s1:][]{}]", api.KindList, "n", "t", "i5;", "s1:]", "[]", "{}")
	holdParts(t, "{nti5;s1:}[]{}}", api.KindStruct, "n", "t", "i5;", "s1:}", "[]", "{}")
	holdParts(t, "[[n{t}]{[f]i-3;}]", api.KindList, "[n{t}]", "{[f]i-3;}")
	holdParts(t, "[s0:n]", api.KindList, "s0:", "n")
	for _, v := range samples() {
		if !hold(t, v) {
			t.Errorf("P7.2: %q is no value", v)
		}
		hold(t, Bytes(v))
	}
}

// All that a byte can be, within bytes, alone, and behind or ahead of a value.
func TestEveryByte(t *testing.T) {
	for b := range 256 {
		s := string([]byte{byte(b)})
		holdParts(t, "s1:"+s, api.KindBytes, s)
		holdParts(t, "[s1:"+s+"n]", api.KindList, "s1:"+s, "n")
		hold(t, s)
		for _, v := range samples() {
			holdNone(t, v+s)
			hold(t, s+v)
			hold(t, "["+v+s+"]")
			hold(t, "{"+s+v+"}")
		}
	}
}

func TestCut(t *testing.T) {
	for _, v := range samples() {
		for at := range len(v) {
			holdNone(t, v[:at])
			hold(t, v[at:])
			hold(t, "["+v[:at]+"]")
		}
	}
}

func TestHowDeep(t *testing.T) {
	nests := [][2]string{{"[", "]"}, {"{", "}"}}
	for _, outer := range nests {
		for _, inner := range nests {
			v, empty := "n", inner[0]+inner[1]
			for depth := range 9 {
				// A value within as many as depth, and one that holds none.
				want := depth <= api.MaxDepth
				if got := hold(t, v); got != want {
					t.Errorf("P7.2: %q: %v", v, got)
				}
				if got := hold(t, empty); got != want {
					t.Errorf("P7.2: %q: %v", empty, got)
				}
				// The deep one is not the first one.
				hold(t, "[ti5;"+v+"]")
				v, empty = outer[0]+v+outer[1], outer[0]+empty+outer[1]
				outer, inner = inner, outer
			}
		}
	}
	holdParts(t, "[[[[n]]]]", api.KindList, "[[[n]]]")
	holdParts(t, "{[{[i5;]}]}", api.KindStruct, "[{[i5;]}]")
	holdParts(t, "[[[[[]]]]]", api.KindList, "[[[[]]]]")
	for _, v := range []string{"[[[[[n]]]]]", "{[{[{t}]}]}", "[[[[[[]]]]]]", "{{{{{{}}}}}}", "[n[[[[i5;]]]]n]", "{[][[[[s0:]]]]}"} {
		holdNone(t, v)
	}
	for _, sign := range []string{"[", "{", "[{"} {
		holdNone(t, strings.Repeat(sign, api.MaxValue/len(sign)))
		holdNone(t, strings.Repeat(sign, 1<<22))
	}
	holdNone(t, strings.Repeat("[", api.MaxValue/2)+strings.Repeat("]", api.MaxValue/2))
}

func TestHowLong(t *testing.T) {
	for _, more := range []int{-2, -1, 0, 1, 2, 30000} {
		size := api.MaxValue + more
		for _, v := range []string{
			"s" + strconv.Itoa(size-7) + ":" + strings.Repeat("n", size-7),
			"[" + strings.Repeat("n", size-2) + "]",
			"{" + strings.Repeat("t", size-2) + "}",
			"[" + strings.Repeat("[]", size/2-1) + strings.Repeat("f", size%2) + "]",
			"{s0:" + strings.Repeat("n", size-8) + "i7;}",
		} {
			if len(v) != size {
				t.Fatalf("%d bytes", len(v))
			}
			if got := hold(t, v); got != (more <= 0) {
				t.Errorf("P7.2: %q of %d bytes: %v", short(v), size, got)
			}
		}
	}
	all := strings.Repeat("a", api.MaxValue-7)
	holdParts(t, "s65529:"+all, api.KindBytes, all)
	holdNone(t, "s65530:a"+all)
	holdParts(t, "["+strings.Repeat("n", api.MaxValue-2)+"]", api.KindList, slices.Repeat([]string{"n"}, api.MaxValue-2)...)
	holdNone(t, "["+strings.Repeat("n", api.MaxValue-1)+"]")
}

// notNumbers are written like numbers, but are none.
func notNumbers() []string {
	return []string{
		"", "-", "+", "--", "-0", "+0", "00", "000", "-00", "01", "-01", "007", "+5", "++5", "-+5", "--5", "5-", "5+", " 5", "5 ",
		"1_0", "0x5", "0b1", "1e3", "5.", "1.0", ".5", "a", "5a", "a5", "\x005", "5\x00", "\xb2", "²", "٣", "５", "n", "t", "[", "]",
		"18446744073709551616", "18446744073709551621", "-18446744073709551611", "340282366920938463463374607431768211456",
		"99999999999999999999", "-99999999999999999999", "1" + strings.Repeat("0", 60000), strings.Repeat("0", 60000), strings.Repeat("0", 60000) + "5",
	}
}

func TestNoNumbers(t *testing.T) {
	for _, digits := range append(notNumbers(), "9223372036854775808", "-9223372036854775809", "18446744073709551615") {
		holdNone(t, "i"+digits+";")
		holdNone(t, "[ni"+digits+";]")
		holdNone(t, "{i"+digits+";n}")
	}
	for _, v := range []string{"i", "i5", "i-5", "i5:", "i5i5;", "5;", "5", ";", "i5;;", "I5;", "i5n", "[i5]", "[i]", "ii5;", "i5;5;"} {
		holdNone(t, v)
	}
}

// Numbers about the edges of 64 bits, and about powers of two and of ten.
func TestNumbersAboutEdges(t *testing.T) {
	low, high := big.NewInt(math.MinInt64), big.NewInt(math.MaxInt64)
	hold := func(x *big.Int) {
		t.Helper()
		if x.Cmp(low) < 0 || x.Cmp(high) > 0 {
			holdNone(t, "i"+x.String()+";")
		} else {
			holdParts(t, "i"+x.String()+";", api.KindInt, x.String())
		}
	}
	for power := range int64(130) {
		for _, base := range []int64{2, 10} {
			whole := new(big.Int).Exp(big.NewInt(base), big.NewInt(power), nil)
			for more := int64(-3); more <= 3; more++ {
				x := new(big.Int).Add(whole, big.NewInt(more))
				hold(x)
				hold(x.Neg(x))
			}
		}
	}
}

func TestNoBytes(t *testing.T) {
	for _, digits := range append(notNumbers(), "-1", "-5", "9223372036854775807", "9223372036854775808", "-9223372036854775808", "4294967296", "4294967297", "2147483648") {
		for _, s := range []string{"", "a", "abcde", ":", strings.Repeat("a", 50)} {
			holdNone(t, "s"+digits+":"+s)
		}
		holdNone(t, "[s"+digits+":]")
		holdNone(t, "[s"+digits+":n]")
		holdNone(t, "{ns"+digits+":}")
	}
	for _, v := range []string{"s", "s1", "s0", "s1a", "s1;a", "s0;", "1:a", ":", ":a", "s:a", "S1:a", "[s1:]", "[s2:n]", "[s1]", "[s1:ab]"} {
		holdNone(t, v)
	}
	for n := range 30 {
		s := strings.Repeat("]", n)
		for count := range 40 {
			v := "s" + strconv.Itoa(count) + ":" + s
			if got := hold(t, v); got != (count == n) {
				t.Errorf("P7.2: %q: %v", v, got)
			}
			// The list is closed if one sign just is left of them.
			if got := hold(t, "["+v); got != (count == n-1) {
				t.Errorf("P7.2: %q: %v", "["+v, got)
			}
		}
	}
}

func TestNoNests(t *testing.T) {
	for _, v := range []string{
		"", "[", "]", "{", "}", "[}", "{]", "[n}", "{n]", "[[]", "{{}", "[{]", "{[}", "[{]}", "{[}]", "[]]", "{}}", "[]}", "{}]",
		"[n]]", "{n}}", "[[n]", "][", "}{", "[][]", "{}{}", "[n][n]", "nn", "nt", "[]n", "n[]", "[n,n]", "[ n]", "(n)", "<n>", "[x]", "{x}", "x", "N", "T", "\x00", "\xff", " n", "n ",
	} {
		holdNone(t, v)
	}
}

// walk gives get every text of n signs.
func walk(signs string, n int, get func(v string)) {
	b := make([]byte, n)
	var fill func(at int)
	fill = func(at int) {
		if at == n {
			get(string(b))
			return
		}
		for i := range len(signs) {
			b[at] = signs[i]
			fill(at + 1)
		}
	}
	fill(0)
}

func TestAllShortTexts(t *testing.T) {
	for _, c := range []struct {
		signs string
		most  int
	}{{"nits01-:;[]{}", 4}, {"ns01:[]", 6}, {"i019-;", 6}, {"[]{}n", 7}, {"[]n", 10}, {"[]", 14}} {
		values := 0
		for n := range c.most + 1 {
			walk(c.signs, n, func(v string) {
				if hold(t, v) {
					values++
				}
			})
		}
		if values == 0 {
			t.Errorf("P7.2: of %q no value was held", c.signs)
		}
	}
}

// spoiled is v with some bytes changed, left out or put in.
func spoiled(r *rnd, v string) string {
	b := []byte(v)
	for range 1 + r.next(2) {
		at := r.next(len(b) + 1)
		sign := signs[r.next(len(signs))]
		switch what := r.next(3); {
		case what == 0 || at == len(b):
			b = slices.Insert(b, at, sign)
		case what == 1:
			b[at] = sign
		default:
			b = slices.Delete(b, at, at+1)
		}
	}
	return string(b)
}

// anyValue is a value, by chance, that stands within so many others.
func anyValue(r *rnd, depth int) string {
	switch what := r.next(8); {
	case what == 0:
		return r.pick("n", "t", "f")
	case what == 1:
		return fmt.Sprintf("i%d;", r.next(2000)-1000)
	case what == 2:
		return "i" + r.pick("0", "-1", "9223372036854775807", "-9223372036854775808") + ";"
	case what == 3 || depth == api.MaxDepth+1:
		s := r.pick("", "a", "]", "}", ";]", "s1:", "1234567890", "[{n", "\xff\x80\x00")
		return fmt.Sprintf("s%d:%s", len(s), s)
	}
	out := ""
	for range r.next(4) {
		out += anyValue(r, depth+1)
	}
	if r.next(2) == 0 {
		return "[" + out + "]"
	}
	return "{" + out + "}"
}

func TestMixedTexts(t *testing.T) {
	r := rnd(7)
	values, others := 0, 0
	for range 60000 {
		v := anyValue(&r, 0)
		for range 3 {
			if hold(t, v) {
				values++
			} else {
				others++
			}
			v = spoiled(&r, v)
		}
	}
	if values < 10000 || others < 10000 {
		t.Errorf("P7.2: %d values and %d others were held", values, others)
	}
}

// R4: what was handed in reads as it did, the lists' spare room too.
func TestHandedInStays(t *testing.T) {
	texts := []string{"n", "[i5;]", "x", "spare", "room"}
	kept := slices.Clone(texts)
	nodes := []api.Node{row(-1), list(0), leaf(0, 0), null(leaf(2, 1)), leaf(1, 0), {Kind: 77, Parent: 88, Null: true}}
	before := slices.Clone(nodes)
	for n := range texts {
		List(texts[:n])
		Struct(texts[:n])
	}
	for n := range nodes {
		for at := -1; at <= len(nodes); at++ {
			for _, v := range samples() {
				Fits(api.Type{Nodes: nodes[:n]}, at, v)
			}
			Fits(api.Type{Nodes: nodes[:n]}, at, "{[ns1:a]i5;}")
		}
	}
	if !slices.Equal(texts, kept) {
		t.Errorf("R4: %q became %q", kept, texts)
	}
	if !slices.Equal(nodes, before) {
		t.Errorf("R4: %v became %v", before, nodes)
	}
}

// R4: a list that was answered can be written to, its spare room too, and no other answer is changed.
func TestAnswersAreNew(t *testing.T) {
	for _, v := range samples() {
		k, _ := know(v)
		_, first, _ := Parts(v)
		_, second, _ := Parts(v)
		room := first[:cap(first)]
		for i := range room {
			room[i] = "spoiled"
		}
		if !slices.Equal(second, k.parts) {
			t.Errorf("R4: an earlier answer of %q is %q", v, second)
		}
		holdParts(t, v, k.kind, k.parts...)
	}
}

// R4: nothing of a list or a type is kept: others in the same memory are told as they are.
func TestNothingIsKept(t *testing.T) {
	vs := []string{"n", "t"}
	made := List(vs)
	vs[0], vs[1] = "i5;", "f"
	if other := List(vs); made != "[nt]" || other != "[i5;f]" {
		t.Errorf("R4: %q, %q", made, other)
	}
	x := typeOf(row(-1), leaf(0, 0), leaf(1, 0))
	holdFits(t, x, 0, "{i5;t}", true)
	x.Nodes[1], x.Nodes[2] = leaf(1, 0), null(leaf(0, 0))
	holdFits(t, x, 0, "{i5;t}", false)
	holdFits(t, x, 0, "{tn}", true)
	x.Nodes[2].Parent = 2
	holdFits(t, x, 0, "{tn}", false)
}

// R5: the same answers from several goroutines at one time.
func TestAtOneTime(t *testing.T) {
	shared := typeOf(list(-1), null(row(0)), leaf(0, 1), null(list(1)), null(leaf(2, 3)))
	var wait sync.WaitGroup
	for range 8 {
		wait.Go(func() {
			for range 20 {
				for _, v := range samples() {
					hold(t, v)
				}
				holdFits(t, shared, 0, "[n{i5;n}{i6;[s1:an]}]", true)
				holdFits(t, shared, 0, "[n{i5;n}{n[s1:an]}]", false)
				if got := Struct([]string{Int(-5), Bytes("a"), List([]string{Null(), Bool(true)})}); got != "{i-5;s1:a[nt]}" {
					t.Errorf("R5: %q", got)
				}
			}
		})
	}
	wait.Wait()
}
