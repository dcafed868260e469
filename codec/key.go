package codec

import (
	"math"
	"slices"

	"ramble/api"
	"ramble/value"
)

// word is a number's bytes in a key.
type word [8]byte

// topBit is turned, so that numbers below 0 stand ahead of the others.
const topBit = 1 << 63

// A 0 within a string has a byte behind it that says whether the string goes on. The end is the less of the two,
// so that a beginning of another string stands ahead of that.
const (
	ends   = 1
	goesOn = math.MaxUint8
)

// Key is the values' forms, one behind the other, whose bytes stand as the values stand.
// ErrValue, if one of them may not be; ErrKind, if one is a list or a map; whichever comes first.
func Key(l ...api.Value) ([]byte, api.Errno) {
	var key []byte
	for _, v := range l {
		if e := value.Check(v); e != api.OK {
			return nil, e
		}
		if v.Kind == api.VList || v.Kind == api.VMap {
			return nil, api.ErrKind
		}
		key = putForm(key, v)
	}
	return key, api.OK
}

// putForm puts the form that v has in a key behind b.
func putForm(b []byte, v api.Value) []byte {
	b = append(b, byte(v.Kind))
	switch v.Kind {
	case api.VBool:
		return append(b, byte(v.N))
	case api.VStr:
		return putMarked(b, v.S)
	}
	w := wordOf(v.N)
	return append(b, w[:]...)
}

func wordOf(n int64) word {
	u := uint64(n) ^ topBit
	var w word
	for i := range w {
		w[len(w)-1-i] = byte(u >> (8 * i))
	}
	return w
}

func (w word) number() int64 {
	var u uint64
	for _, c := range w {
		u = u<<8 | uint64(c)
	}
	return int64(u ^ topBit)
}

func putMarked(b []byte, s string) []byte {
	for i := range len(s) {
		b = append(b, s[i])
		if s[i] == 0 {
			b = append(b, goesOn)
		}
	}
	return append(b, 0, ends)
}

// Values are the values whose key b is; else Take's error, where it says no.
func Values(b []byte) ([]api.Value, api.Errno) {
	var l []api.Value
	for len(b) > 0 {
		v, n, e := Take(b)
		if e != api.OK {
			return nil, e
		}
		l = append(l, v)
		b = b[n:]
	}
	return l, api.OK
}

// Take is the value with whose form as a key b begins, and how many bytes that has.
// ErrEnds, if b ends too early; ErrBytes, if that is no form of a value that may stand in a key.
func Take(b []byte) (api.Value, int, api.Errno) { return first(b, (*reader).form) }

// form reads a value as it stands in a key, be it one that may be or not.
func (r *reader) form() (api.Value, api.Errno) {
	v, e := r.begin()
	if e != api.OK {
		return v, e
	}
	switch v.Kind {
	case api.VInt, api.VVertex, api.VEdge:
		v.N, e = r.word()
	case api.VBool:
		v.N, e = r.small()
	case api.VStr:
		v.S, e = r.marked()
	default:
		e = api.ErrBytes
	}
	return v, e
}

func (r *reader) word() (int64, api.Errno) {
	b, e := r.pass(len(word{}))
	if e != api.OK {
		return 0, e
	}
	return word(b).number(), api.OK
}

func (r *reader) marked() (string, api.Errno) {
	var s []byte
	for {
		c, e := r.one()
		if e != api.OK {
			return "", e
		}
		if c == 0 {
			more, e := r.mark()
			if e != api.OK || !more {
				return string(s), e
			}
		}
		s = append(s, c)
	}
}

// mark tells whether a string goes on behind a 0.
func (r *reader) mark() (bool, api.Errno) {
	c, e := r.one()
	if e == api.OK && c != goesOn && c != ends {
		e = api.ErrBytes
	}
	return c == goesOn, e
}

// After is the least byte string that is above all that begin with b; false, if there is none.
func After(b []byte) ([]byte, bool) {
	n := len(b)
	for n > 0 && b[n-1] == math.MaxUint8 {
		n--
	}
	if n == 0 {
		return nil, false
	}
	after := slices.Clone(b[:n])
	after[n-1]++
	return after, true
}
