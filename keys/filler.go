package keys

import (
	"math"
	"strings"

	"ramble/api"
	"ramble/num"
	"ramble/value"
)

// filler reads a list or a map, as codec.Put puts it, from bytes that may end within it. Where they end it goes on with the greatest value that may stand there:
// so the keys of a map rise, if those of any value that begins so do. Of bytes with which no list or map begins it makes something else.
type filler struct {
	rest []byte
}

// value reads a value that stands that deep, and that so many keys must follow in its map. The greatest values of all are edges, and each key is above those ahead of it.
func (f *filler) value(deep int, follow uint64) api.Value {
	if len(f.rest) == 0 {
		return value.Edge(int64(api.MaxId - follow))
	}
	v := api.Value{Kind: int(f.rest[0])}
	f.rest = f.rest[1:]
	switch v.Kind {
	case api.VInt:
		v.N = f.integer()
	case api.VStr:
		v.S = f.text()
	case api.VBool:
		v.N = f.truth()
	case api.VList:
		v.L = f.list(deep)
	case api.VMap:
		v.L = f.dict(deep)
	case api.VVertex:
		v.N = int64(f.greatest(api.MaxId))
	case api.VEdge:
		v.N = int64(f.greatest(api.MaxId - follow))
	}
	return v
}

// number reads a number, and tells that all of it is there; if not, the low bits that are there, and how many these are.
func (f *filler) number() (uint64, int, bool) {
	if u, n, e := num.Take(f.rest); e == api.OK {
		f.rest = f.rest[n:]
		return u, 0, true
	}
	var low uint64
	bits := 0
	for _, c := range f.rest {
		low |= uint64(c&127) << bits
		bits += 7
	}
	f.rest = nil
	return low, bits, false
}

// greatest reads a number, as the greatest one that is not above most.
func (f *filler) greatest(most uint64) uint64 {
	low, bits, is := f.number()
	if is || low > most {
		return min(low, most)
	}
	return low + (most-low)>>bits<<bits
}

// least reads a number, as the least one that has a byte more than are there.
func (f *filler) least() uint64 {
	low, bits, is := f.number()
	if is {
		return low
	}
	return low + 1<<bits
}

// integer reads a whole number. That of an odd zig is below 0, and the less the zig is, the greater it is.
func (f *filler) integer() int64 {
	if len(f.rest) > 0 && f.rest[0]%2 != 0 {
		return num.Zag(f.least())
	}
	return num.Zag(f.greatest(math.MaxUint64 - 1))
}

func (f *filler) truth() int64 {
	if len(f.rest) == 0 {
		return 1
	}
	c := f.rest[0]
	f.rest = f.rest[1:]
	return int64(c)
}

func (f *filler) text() string {
	length := int(f.greatest(api.MaxText))
	there := f.rest[:min(length, len(f.rest))]
	f.rest = f.rest[len(there):]
	return string(there) + strings.Repeat("\xff", length-len(there))
}

// list reads what stands in a list that stands that deep. Of two lists, one of which is a beginning of the other, the longer one is the greater.
func (f *filler) list(deep int) []api.Value {
	var l []api.Value
	for range f.greatest(room(deep)) {
		l = append(l, f.value(deep+1, 0))
	}
	return l
}

// dict reads what stands in a map that stands that deep. The fewer keys must follow, the greater is the first one that is not there.
func (f *filler) dict(deep int) []api.Value {
	var l []api.Value
	for pairs := min((f.least()+1)/2, room(deep)); pairs > 0; pairs-- {
		l = append(l, f.value(deep+1, pairs-1), f.value(deep+1, 0))
	}
	return l
}

// room is how many values may stand in a list that stands that deep, or how many keys in a map.
func room(deep int) uint64 {
	if deep >= api.MaxDeep {
		return 0
	}
	return api.MaxList
}
