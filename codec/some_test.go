package codec

import (
	"bytes"
	"math"
	"math/rand"
	"slices"
	"strings"
	"testing"

	"ramble/api"
	"ramble/value"
)

// list and dict are a list and a map as they are written, whether they may be or not.
func list(l ...api.Value) api.Value { return api.Value{Kind: api.VList, L: l} }

func dict(l ...api.Value) api.Value { return api.Value{Kind: api.VMap, L: l} }

func truthOf(n int64) api.Value { return api.Value{Kind: api.VBool, N: n} }

// many is v as often as asked, one behind the other.
func many(v api.Value, often int) []api.Value { return slices.Repeat([]api.Value{v}, often) }

// risingKeys is a map of that many keys, each with the value true.
func risingKeys(often int) api.Value {
	var l []api.Value
	for i := range often {
		l = append(l, value.Int(int64(i)-5), value.Bool(true))
	}
	return dict(l...)
}

// nested is v in that many lists, one within the other.
func nested(v api.Value, lists int) api.Value {
	for range lists {
		v = list(v)
	}
	return v
}

// strs are strings whose bytes turn round what a key says by 0, 1 and 255, from the least on.
func strs() []string {
	l := []string{"", strings.Repeat("\x00", api.MaxText), strings.Repeat("a", api.MaxText), strings.Repeat("a", api.MaxText-1), strings.Repeat("\xff", api.MaxText), "a", "ab", "b", "\x7f", "\x80", "a\x00", "ä"}
	signs := []string{"\x00", "\x01", "\x02", "\xfe", "\xff"}
	for _, a := range signs {
		l = append(l, a, "a"+a+a+"b")
		for _, b := range signs {
			l = append(l, a+b)
			for _, c := range signs {
				l = append(l, a+b+c)
			}
		}
	}
	slices.Sort(l)
	return l
}

// rising are all the values from the least on that the tests put into keys.
func rising() []api.Value {
	var l []api.Value
	for _, n := range []int64{math.MinInt64, math.MinInt64 + 1, -1 << 32, -257, -256, -255, -2, -1, 0, 1, 2, 127, 128, 255, 256, 300, 1 << 32, 1 << 62, math.MaxInt64 - 1, math.MaxInt64} {
		l = append(l, value.Int(n))
	}
	for _, s := range strs() {
		l = append(l, value.Str(s))
	}
	l = append(l, value.Bool(false), value.Bool(true))
	for _, kind := range []int{api.VVertex, api.VEdge} {
		for _, id := range []int64{1, 2, 127, 128, 255, 256, 65535, 65536, api.MaxId - 1, api.MaxId} {
			l = append(l, api.Value{Kind: kind, N: id})
		}
	}
	return l
}

// may are values that may be: those of keys, and lists and maps up to the limits.
func may() []api.Value {
	l := append(rising(),
		list(), list(value.Int(300)), list(list(), dict()), list(many(value.Bool(true), api.MaxList)...), list(rising()[:200]...),
		nested(value.Int(-1), api.MaxDeep-1), nested(list(), api.MaxDeep-1), nested(dict(), api.MaxDeep-1),
		dict(), risingKeys(1), risingKeys(api.MaxList), dict(value.Str("a"), value.Int(-300), value.Str("b"), value.Vertex(7)),
		dict(list(), dict(), list(list()), value.Str("")), dict(nested(value.Edge(1), api.MaxDeep-2), nested(risingKeys(3), api.MaxDeep-3)),
	)
	r, pool := rand.New(rand.NewSource(3)), rising()
	for range 300 {
		l = append(l, someValue(r, pool, 1))
	}
	return l
}

// someValue is a value that may be, where it stands that deep, made of the pool's.
func someValue(r *rand.Rand, pool []api.Value, deep int) api.Value {
	if deep >= api.MaxDeep || deep > 1 && r.Intn(2) > 0 {
		return pool[r.Intn(len(pool))]
	}
	var l []api.Value
	for range r.Intn(5) {
		l = append(l, someValue(r, pool, deep+1))
	}
	if r.Intn(2) == 0 {
		return list(l...)
	}
	slices.SortFunc(l, value.Compare)
	var pairs []api.Value
	for _, key := range slices.CompactFunc(l, value.Same) {
		pairs = append(pairs, key, someValue(r, pool, deep+1))
	}
	return dict(pairs...)
}

// mayNot are values that value.Check refuses.
func mayNot() []api.Value {
	l := []api.Value{
		{}, {Kind: -1}, {Kind: 8}, {Kind: 256 + api.VInt}, {Kind: 256 + api.VStr}, {Kind: math.MaxInt},
		{Kind: api.VInt, S: "a"}, {Kind: api.VStr, N: 1}, {Kind: api.VBool, L: many(value.Int(1), 1)}, {Kind: api.VVertex, N: 1, S: "a"},
		{Kind: api.VList, N: 1}, {Kind: api.VMap, S: "a"},
		truthOf(2), truthOf(-1), truthOf(256), truthOf(257),
		value.Vertex(0), value.Vertex(-1), value.Vertex(api.MaxId + 1), value.Vertex(math.MinInt64),
		value.Edge(0), value.Edge(-1), value.Edge(api.MaxId + 1), value.Edge(math.MaxInt64),
		value.Str(strings.Repeat("a", api.MaxText+1)), value.Str(strings.Repeat("\x00", api.MaxText+1)),
		list(many(value.Int(1), api.MaxList+1)...), risingKeys(api.MaxList + 1),
		dict(value.Int(1)), dict(value.Int(2), value.Int(0), value.Int(1), value.Int(0)), dict(many(value.Int(1), 4)...),
		nested(value.Int(1), api.MaxDeep), nested(list(), api.MaxDeep), nested(value.Int(1), 300),
	}
	for _, v := range l {
		l = append(l, list(v), dict(value.Int(1), v))
	}
	return l
}

// same holds field against field, so that it does not hang on package value.
func same(a, b api.Value) bool {
	return a.Kind == b.Kind && a.N == b.N && a.S == b.S && slices.EqualFunc(a.L, b.L, same)
}

func zero(v api.Value) bool { return v.Kind == 0 && v.N == 0 && v.S == "" && v.L == nil }

// spoil overwrites all lists of v, so that whoever shares them is seen.
func spoil(v api.Value) {
	for i := range v.L {
		spoil(v.L[i])
		v.L[i] = api.Value{Kind: -77}
	}
}

// key is the key of values that may stand in one.
func key(t *testing.T, l ...api.Value) []byte {
	t.Helper()
	b, e := Key(l...)
	if e != api.OK {
		t.Fatalf("Key(%v): %d", l, e)
	}
	return b
}

// join is pieces of bytes, one behind the other, in memory of their own.
func join(pieces ...[]byte) []byte { return bytes.Join(pieces, nil) }

// head is the first bytes of b, as many as one wants to see.
func head(b []byte) []byte { return b[:min(len(b), 60)] }

// face is one of the calls that find a value where bytes begin.
type face func(b []byte) (api.Value, int, api.Errno)

// wantFirst holds what a face answers against what it should; with an error all else must be zero.
func wantFirst(t *testing.T, what string, call face, b []byte, v api.Value, n int, e api.Errno) {
	t.Helper()
	before := bytes.Clone(b)
	got, length, err := call(b)
	if err != e || length != n || !same(got, v) || e != api.OK && !zero(got) {
		t.Fatalf("%s(%v), %d bytes: got %v, %d, %d; want %v, %d, %d", what, head(b), len(b), got, length, err, v, n, e)
	}
	if !bytes.Equal(b, before) {
		t.Fatalf("%s changed %v to %v", what, head(before), head(b))
	}
}

func wantTake(t *testing.T, b []byte, v api.Value, n int, e api.Errno) {
	t.Helper()
	wantFirst(t, "Take", Take, b, v, n, e)
}

func wantRead(t *testing.T, b []byte, v api.Value, n int, e api.Errno) {
	t.Helper()
	wantFirst(t, "Read", Read, b, v, n, e)
}

// eachOf hands on all byte strings of these bytes, up to that length.
func eachOf(signs []byte, length int, use func(b []byte)) {
	var grow func(b []byte)
	grow = func(b []byte) {
		use(b)
		if len(b) == length {
			return
		}
		for _, c := range signs {
			grow(append(bytes.Clone(b), c))
		}
	}
	grow(nil)
}
