package value

import (
	"math"
	"math/rand"
	"slices"
	"testing"

	"ramble/api"
)

// rising are values from the least on, each below the next.
func rising() []api.Value {
	return []api.Value{
		{Kind: math.MinInt, N: 9}, {Kind: -1, S: "z"}, {}, {N: 1}, {N: 1, S: "a"}, {N: 1, S: "a", L: []api.Value{{}}},
		Int(math.MinInt64), Int(-2), Int(-1), Int(0), Int(0x7f), {Kind: api.VInt, N: 0x7f, S: "a"}, Int(0x80), Int(math.MaxInt64),
		Str(""), {Kind: api.VStr, L: []api.Value{{}}}, Str("\x00"), Str("A"), Str("a"), Str("a\x00"), Str("ab"), Str("b"), Str("\x7f"), Str("\x80"), Str("é"), Str("\xff"), {Kind: api.VStr, N: 1},
		Bool(false), Bool(true), {Kind: api.VBool, N: 2},
		list(), list(api.Value{}), list(Int(1)), list(Int(1), Int(1)), list(Int(1), Int(1), Int(1)), list(Int(1), Int(2)), list(Int(2)), list(Str("")), list(list()), list(list(), Int(1)), list(list(Int(1))), list(Edge(1)),
		{Kind: api.VList, S: "a"}, {Kind: api.VList, N: 1},
		dict(), dict(Int(1)), dict(Int(1), Int(1)), dict(Int(1), Int(2)), dict(Int(1), Int(2), Int(3), Int(4)), dict(Int(2), Int(1)), dict(list(), list()),
		Vertex(-1), Vertex(0), Vertex(1), Vertex(api.MaxId), Edge(1), Edge(2), Edge(math.MaxInt64),
		{Kind: 8}, {Kind: math.MaxInt},
	}
}

// P2.2: by Kind, N, S, L, whatever the Kinds are; P2.5 of these.
func TestCompareAsWritten(t *testing.T) {
	l := rising()
	for i, a := range l {
		for j, b := range l {
			want := 0
			if i < j {
				want = -1
			} else if i > j {
				want = 1
			}
			if c := Compare(a, b); c != want {
				t.Errorf("Compare(%v, %v): %d, want %d", a, b, c, want)
			}
			if Same(a, b) != (i == j) {
				t.Errorf("Same(%v, %v)", a, b)
			}
		}
	}
}

// R6: an empty list is none, in the order too.
func TestCompareOfEmptyLists(t *testing.T) {
	a, b := Int(1), Int(1)
	b.L = []api.Value{}
	if Compare(a, b) != 0 || !Same(b, a) {
		t.Errorf("nil and empty: %d", Compare(a, b))
	}
}

// P2.5: of any two one stands ahead, or they are the same field by field; what is ahead of what is ahead, is.
func TestCompareIsAnOrder(t *testing.T) {
	r := rand.New(rand.NewSource(3))
	l := append(append(may(), mayNot()...), rising()...)
	pick := func() api.Value { return l[r.Intn(len(l))] }
	for range 200000 {
		a, b, c := pick(), pick(), pick()
		if Compare(a, b) != -Compare(b, a) || (Compare(a, b) == 0) != same(a, b) || Same(a, b) != same(a, b) {
			t.Fatalf("%v and %v: %d and %d", a, b, Compare(a, b), Compare(b, a))
		}
		if Compare(a, b) <= 0 && Compare(b, c) <= 0 && Compare(a, c) > 0 {
			t.Fatalf("%v, %v, %v do not follow each other", a, b, c)
		}
		if n := Compare(a, c); n < -1 || n > 1 {
			t.Fatalf("Compare: %d", n)
		}
	}
}

// P2.4: the least and the greatest by Compare, the first ones of those; ErrNone of none.
func TestMinAndMax(t *testing.T) {
	for _, l := range [][]api.Value{nil, {}} {
		if v, e := Min(l...); e != api.ErrNone || !zero(v) {
			t.Errorf("Min of none: %v, %d", v, e)
		}
		if v, e := Max(l...); e != api.ErrNone || !zero(v) {
			t.Errorf("Max of none: %v, %d", v, e)
		}
	}
	r := rand.New(rand.NewSource(4))
	all := rising()
	for range 2000 {
		var places []int
		var l []api.Value
		for range 1 + r.Intn(6) {
			places = append(places, r.Intn(len(all)))
			l = append(l, all[places[len(places)-1]])
		}
		least, e := Min(l...)
		if e != api.OK || !same(least, all[slices.Min(places)]) {
			t.Fatalf("Min(%v): %v, %d", l, least, e)
		}
		most, e := Max(l...)
		if e != api.OK || !same(most, all[slices.Max(places)]) {
			t.Fatalf("Max(%v): %v, %d", l, most, e)
		}
	}
}

// R3: Min and Max answer memory of their own, and leave what they are handed.
func TestMinAndMaxAreOwn(t *testing.T) {
	l := []api.Value{list(list(Int(1))), list(list(Int(2)))}
	least, _ := Min(l...)
	spoil(least)
	most, _ := Max(l...)
	spoil(most)
	wantSame(t, "the least one", l[0], list(list(Int(1))))
	wantSame(t, "the greatest one", l[1], list(list(Int(2))))
}
