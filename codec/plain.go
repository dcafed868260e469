package codec

import (
	"math"
	"slices"

	"ramble/api"
	"ramble/num"
	"ramble/value"
)

// Put is b's bytes with v's behind them; of a value that may not be, b's alone.
func Put(b []byte, v api.Value) []byte {
	out := slices.Clone(b)
	if value.Check(v) != api.OK {
		return out
	}
	return putPlain(out, v)
}

func putPlain(b []byte, v api.Value) []byte {
	b = append(b, byte(v.Kind))
	switch v.Kind {
	case api.VInt:
		return putNumber(b, num.Zig(v.N))
	case api.VVertex, api.VEdge:
		return putNumber(b, uint64(v.N))
	case api.VBool:
		return append(b, byte(v.N))
	case api.VStr:
		b = putNumber(b, uint64(len(v.S)))
		return append(b, v.S...)
	}
	b = putNumber(b, uint64(len(v.L)))
	for _, part := range v.L {
		b = putPlain(b, part)
	}
	return b
}

// putNumber hands num.Put no bytes, since it would copy them all for each number.
func putNumber(b []byte, u uint64) []byte { return append(b, num.Put(nil, u)...) }

// Read is the value with whose bytes b begins, and how many these are.
// ErrEnds, if b ends too early; ErrBytes, if it begins with none of a value that may be.
func Read(b []byte) (api.Value, int, api.Errno) { return first(b, (*reader).plain) }

// Parse is the value whose bytes b is; Read's error, or ErrBytes, if bytes are left.
func Parse(b []byte) (api.Value, api.Errno) {
	v, n, e := Read(b)
	if e != api.OK {
		return api.Value{}, e
	}
	if n < len(b) {
		return api.Value{}, api.ErrBytes
	}
	return v, api.OK
}

// plain reads a value as plain bytes, be it one that may be or not.
func (r *reader) plain() (api.Value, api.Errno) { return r.within(1) }

// within reads a value that stands that deep. Where bytes end, no value stands, so that none stands too deep there.
func (r *reader) within(deep int) (api.Value, api.Errno) {
	v, e := r.begin()
	if e != api.OK {
		return v, e
	}
	if deep > api.MaxDeep {
		return v, api.ErrBytes
	}
	switch v.Kind {
	case api.VInt:
		var zig uint64
		zig, e = r.number()
		v.N = num.Zag(zig)
	case api.VVertex, api.VEdge:
		v.N, e = r.id()
	case api.VBool:
		v.N, e = r.small()
	case api.VStr:
		v.S, e = r.text()
	case api.VList:
		v.L, e = r.list(api.MaxList, deep+1)
	case api.VMap:
		v.L, e = r.list(2*api.MaxList, deep+1)
	default:
		e = api.ErrBytes
	}
	return v, e
}

// id is the greatest int64 for all numbers above it: none of them may be an id, and that is said when all is read.
func (r *reader) id() (int64, api.Errno) {
	u, e := r.number()
	return int64(min(u, math.MaxInt64)), e
}

// count reads how many there are; ErrBytes, if they are more than most.
func (r *reader) count(most uint64) (int, api.Errno) {
	u, e := r.number()
	if e == api.OK && u > most {
		e = api.ErrBytes
	}
	if e != api.OK {
		return 0, e
	}
	return int(u), api.OK
}

func (r *reader) text() (string, api.Errno) {
	n, e := r.count(api.MaxText)
	if e != api.OK {
		return "", e
	}
	b, e := r.pass(n)
	return string(b), e
}

// list reads at most that many values, which stand that deep.
func (r *reader) list(most uint64, deep int) ([]api.Value, api.Errno) {
	n, e := r.count(most)
	if e != api.OK {
		return nil, e
	}
	var l []api.Value
	for range n {
		v, e := r.within(deep)
		if e != api.OK {
			return nil, e
		}
		l = append(l, v)
	}
	return l, api.OK
}
