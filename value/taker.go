package value

import (
	"strconv"
	"strings"

	"quiver/api"
)

// nothing is the kind of a value that is not there.
const nothing = -1

// taken is a value that was taken off a text: its kind, all of it, and what it has between its signs.
type taken struct {
	kind int
	all  string
	body string
}

// parts tells what a value is made of. They are copies: a piece of a text holds all of its memory.
func (v taken) parts() []string {
	switch v.kind {
	case nothing:
		return nil
	case api.KindList, api.KindStruct:
		var out []string
		for _, one := range v.within() {
			out = append(out, strings.Clone(one.all))
		}
		return out
	}
	return []string{strings.Clone(v.body)}
}

// within tells the values in a list or in a struct.
func (v taken) within() []taken {
	var vs []taken
	k := taker{text: v.body}
	for {
		// How deep it stands was asked when the whole was taken. None is left where none can be taken.
		one, ok := k.take(0)
		if !ok {
			return vs
		}
		vs = append(vs, one)
	}
}

// only tells the one value that all of v is; false, if it is none, or one too long or too deep.
func only(v string) (taken, bool) {
	if len(v) > api.MaxValue {
		return taken{}, false
	}
	k := taker{text: v}
	one, ok := k.take(0)
	return one, ok && k.isDone()
}

// taker takes values off a text, one behind the other; what is ahead of at is taken. Where it could not, it is of no more use.
type taker struct {
	text string
	at   int
}

// isDone tells whether all is taken.
func (k *taker) isDone() bool {
	return k.at == len(k.text)
}

// take takes a value that stands within so many others.
func (k *taker) take(depth int) (taken, bool) {
	if depth > api.MaxDepth || k.isDone() {
		return taken{}, false
	}
	from := k.at
	kind, body, ok := k.behind(k.sign(), depth)
	return taken{kind, k.text[from:k.at], body}, ok
}

// sign takes a byte; there is one.
func (k *taker) sign() byte {
	k.at++
	return k.text[k.at-1]
}

// behind takes what stands behind a value's first sign, and tells its kind and what it has between its signs.
func (k *taker) behind(sign byte, depth int) (kind int, body string, ok bool) {
	switch sign {
	case 'n':
		return nothing, "", true
	case 't', 'f':
		return api.KindBool, k.text[k.at-1 : k.at], true
	case 'i':
		body, ok = k.digits()
		return api.KindInt, body, ok
	case 's':
		body, ok = k.bytes()
		return api.KindBytes, body, ok
	case '[':
		body, ok = k.values(']', depth)
		return api.KindList, body, ok
	case '{':
		body, ok = k.values('}', depth)
		return api.KindStruct, body, ok
	}
	return 0, "", false
}

// digits takes a number and the sign behind it.
func (k *taker) digits() (string, bool) {
	digits, ok := k.upTo(';')
	if !ok {
		return "", false
	}
	_, ok = number(digits)
	return digits, ok
}

// bytes takes a count, the sign behind it, and so many bytes.
func (k *taker) bytes() (string, bool) {
	digits, ok := k.upTo(':')
	if !ok {
		return "", false
	}
	count, ok := number(digits)
	from := k.at
	if !ok || count < 0 || count > int64(len(k.text)-from) {
		return "", false
	}
	k.at += int(count)
	return k.text[from:k.at], true
}

// values takes all values up to a sign that closes a value which stands within so many others, and that sign.
func (k *taker) values(end byte, depth int) (string, bool) {
	from := k.at
	for !k.isDone() && k.text[k.at] != end {
		if _, ok := k.take(depth + 1); !ok {
			return "", false
		}
	}
	if k.isDone() {
		return "", false
	}
	k.at++
	return k.text[from : k.at-1], true
}

// upTo takes all bytes ahead of a sign, and the sign.
func (k *taker) upTo(end byte) (string, bool) {
	size := strings.IndexByte(k.text[k.at:], end)
	if size < 0 {
		return "", false
	}
	from := k.at
	k.at += size + 1
	return k.text[from : from+size], true
}

// number tells which number of 64 bits is written so.
func number(digits string) (int64, bool) {
	x, err := strconv.ParseInt(digits, 10, 64)
	// A plus, zeros ahead and "-0" are read too, but no number is written so.
	return x, err == nil && strconv.FormatInt(x, 10) == digits
}
