package value

import (
	"math"
	"math/rand"
	"slices"
	"strings"
	"testing"

	"ramble/api"
)

// list and dict are a list and a map as they are written, whether they may be or not.
func list(l ...api.Value) api.Value { return api.Value{Kind: api.VList, L: l} }

func dict(l ...api.Value) api.Value { return api.Value{Kind: api.VMap, L: l} }

// ints are the numbers 0, 1, .. as values, as many as asked.
func ints(many int) []api.Value {
	l := make([]api.Value, many)
	for i := range l {
		l[i] = Int(int64(i))
	}
	return l
}

// within is v in that many lists, one within the other.
func within(v api.Value, lists int) api.Value {
	for range lists {
		v = list(v)
	}
	return v
}

// plain are values without others within, and edges of those that may be among them.
func plain() []api.Value {
	return []api.Value{
		Int(0), Int(1), Int(-1), Int(9), Int(10), Int(-10), Int(math.MinInt64), Int(math.MaxInt64),
		Str(""), Str("a"), Str("ab"), Str("b"), Str("'"), Str("\\"), Str("\\'"), Str("x"), Str("\\x00"),
		Str("\x00"), Str("\x1f"), Str(" "), Str("~"), Str("\x7f"), Str("\x80"), Str("\xff"), Str("a\nb"), Str("ä"),
		Str(strings.Repeat("a", api.MaxText)), Str(strings.Repeat("\xff", api.MaxText)), Str("true"), Str("[1, 2]"),
		Bool(false), Bool(true),
		Vertex(1), Vertex(2), Vertex(10), Vertex(api.MaxId), Edge(1), Edge(2), Edge(api.MaxId - 1), Edge(api.MaxId),
	}
}

// may are values that may be: the plain ones, and lists and maps, up to the limits.
func may() []api.Value {
	l := plain()
	l = append(l,
		list(), list(list()), list(Int(1)), list(Int(1), Int(2)), list(Str("a"), Bool(true), Vertex(3)),
		list(dict()), list(ints(api.MaxList)...), within(Int(1), api.MaxDeep-1), within(list(), api.MaxDeep-1),
		dict(), dict(Int(1), Int(2)), dict(Int(1), Int(2), Int(2), Int(1)), dict(Str("a"), list(Bool(true)), Str("b"), Int(1)),
		dict(ints(2*api.MaxList)...), dict(dict(), dict()), dict(list(), Int(1), list(list()), Int(2)),
		dict(within(Int(1), api.MaxDeep-2), within(dict(), api.MaxDeep-2)),
		dict(Int(5), Int(5), Str("5"), Int(5), Bool(true), Int(5), Vertex(5), Int(5), Edge(api.MaxId), Int(5)),
	)
	r := rand.New(rand.NewSource(7))
	for range 400 {
		l = append(l, someValue(r, 1))
	}
	return l
}

// someValue is a value that may be, where it stands that deep.
func someValue(r *rand.Rand, deep int) api.Value {
	pool := plain()
	if deep >= api.MaxDeep || deep > 1 && r.Intn(3) > 0 {
		return pool[r.Intn(len(pool))]
	}
	l := make([]api.Value, r.Intn(4))
	for i := range l {
		l[i] = someValue(r, deep+1)
	}
	if r.Intn(2) == 0 {
		return list(l...)
	}
	slices.SortFunc(l, Compare)
	l = slices.CompactFunc(l, Same)
	var pairs []api.Value
	for _, key := range l {
		pairs = append(pairs, key, someValue(r, deep+1))
	}
	return dict(pairs...)
}

// mayNot are values that may not be, each by one fault alone.
func mayNot() []api.Value {
	l := []api.Value{
		{}, {Kind: -1}, {Kind: 8}, {Kind: math.MaxInt}, {Kind: math.MinInt},
		{Kind: api.VInt, S: "a"}, {Kind: api.VInt, L: ints(1)},
		{Kind: api.VStr, N: 1}, {Kind: api.VStr, N: -1}, {Kind: api.VStr, S: "a", L: ints(1)},
		{Kind: api.VBool, N: 1, S: "a"}, {Kind: api.VBool, L: ints(1)},
		{Kind: api.VBool, N: 2}, {Kind: api.VBool, N: -1}, {Kind: api.VBool, N: math.MinInt64},
		{Kind: api.VList, N: 1}, {Kind: api.VList, S: "a"}, {Kind: api.VMap, N: 1}, {Kind: api.VMap, S: "a"},
		{Kind: api.VVertex, N: 1, S: "a"}, {Kind: api.VVertex, N: 1, L: ints(1)},
		{Kind: api.VEdge, N: 1, S: "a"}, {Kind: api.VEdge, N: 1, L: ints(1)},
		Str(strings.Repeat("a", api.MaxText+1)),
		Vertex(0), Vertex(-1), Vertex(api.MaxId + 1), Vertex(math.MinInt64), Vertex(math.MaxInt64),
		Edge(0), Edge(-1), Edge(api.MaxId + 1), Edge(math.MinInt64), Edge(math.MaxInt64),
		list(ints(api.MaxList + 1)...), dict(ints(2*api.MaxList + 2)...), dict(ints(2*api.MaxList + 1)...),
		dict(Int(1)), dict(Int(1), Int(2), Int(3)),
		dict(Int(1), Int(2), Int(1), Int(3)), dict(Int(2), Int(1), Int(1), Int(1)), dict(Str("1"), Int(1), Int(1), Int(1)),
		dict(Int(1), Int(0), Int(3), Int(0), Int(2), Int(0)), dict(list(Int(1)), Int(0), list(), Int(0)),
		within(Int(1), api.MaxDeep), within(list(), api.MaxDeep), within(dict(), api.MaxDeep),
		dict(within(Int(1), api.MaxDeep-1), Int(1)), dict(Int(1), within(Int(1), api.MaxDeep-1)),
		within(Int(1), 1000),
	}
	for _, v := range l {
		l = append(l, list(v), list(Int(1), v), dict(v, Int(1)), dict(Int(1), v), within(v, 3))
	}
	return l
}

func wantSame(t *testing.T, what string, got, want api.Value) {
	t.Helper()
	if !same(got, want) {
		t.Errorf("%s: got %v, want %v", what, got, want)
	}
}

// same holds field against field, so that it does not hang on Compare.
func same(a, b api.Value) bool {
	return a.Kind == b.Kind && a.N == b.N && a.S == b.S && slices.EqualFunc(a.L, b.L, same)
}

// zero tells whether nothing stands in v.
func zero(v api.Value) bool { return v.Kind == 0 && v.N == 0 && v.S == "" && v.L == nil }

// spoil overwrites all lists of v, so that whoever shares them is seen.
func spoil(v api.Value) {
	for i := range v.L {
		spoil(v.L[i])
		v.L[i] = api.Value{Kind: -77}
	}
}
