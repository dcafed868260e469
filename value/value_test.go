package value

import (
	"math"
	"math/rand"
	"strings"
	"testing"

	"ramble/api"
)

// P2.1: the makers make the value of that Kind, whether it may be or not.
func TestMakers(t *testing.T) {
	long := strings.Repeat("\x00", 1000)
	for _, n := range []int64{0, 1, -1, api.MaxId, api.MaxId + 1, math.MinInt64, math.MaxInt64} {
		wantSame(t, "Int", Int(n), api.Value{Kind: api.VInt, N: n})
		wantSame(t, "Vertex", Vertex(n), api.Value{Kind: api.VVertex, N: n})
		wantSame(t, "Edge", Edge(n), api.Value{Kind: api.VEdge, N: n})
	}
	for _, s := range []string{"", "a", "\xff", long} {
		wantSame(t, "Str", Str(s), api.Value{Kind: api.VStr, S: s})
	}
	wantSame(t, "Bool", Bool(true), api.Value{Kind: api.VBool, N: 1})
	wantSame(t, "Bool", Bool(false), api.Value{Kind: api.VBool})
}

// P2.1: List is the list as it comes, or Check's error.
func TestList(t *testing.T) {
	for _, l := range [][]api.Value{nil, {}, {Int(1)}, {Int(2), Int(1), Int(2)}, ints(api.MaxList), {list(), dict()}, {within(Int(1), api.MaxDeep-2)}} {
		v, e := List(l...)
		if e != api.OK {
			t.Errorf("List of %d: %d", len(l), e)
		}
		wantSame(t, "List", v, list(l...))
	}
	for _, l := range [][]api.Value{{{}}, {Int(1), Vertex(0)}, ints(api.MaxList + 1), {within(Int(1), api.MaxDeep-1)}, {Str(strings.Repeat("a", api.MaxText+1))}} {
		if v, e := List(l...); e != api.ErrValue || !zero(v) {
			t.Errorf("List of %d: %v, %d", len(l), v, e)
		}
	}
}

// P2.1: Map puts keys in order; its own errors stand ahead of Check's.
func TestMap(t *testing.T) {
	for _, c := range []struct {
		l    []api.Value
		want api.Value
		e    api.Errno
	}{
		{nil, dict(), api.OK},
		{[]api.Value{}, dict(), api.OK},
		{[]api.Value{Str("b"), Int(1), Str("a"), list(Bool(true))}, dict(Str("a"), list(Bool(true)), Str("b"), Int(1)), api.OK},
		{[]api.Value{Edge(1), Int(0), Int(5), Int(0), Str(""), Int(0)}, dict(Int(5), Int(0), Str(""), Int(0), Edge(1), Int(0)), api.OK},
		{[]api.Value{Int(1), Int(7), Int(2), Int(7)}, dict(Int(1), Int(7), Int(2), Int(7)), api.OK},
		{ints(2 * api.MaxList), dict(ints(2 * api.MaxList)...), api.OK},
		{ints(2*api.MaxList + 2), api.Value{}, api.ErrValue},
		{ints(2*api.MaxList + 1), api.Value{}, api.ErrArg},
		{[]api.Value{Int(1)}, api.Value{}, api.ErrArg},
		{[]api.Value{Int(1), Int(1), Int(1)}, api.Value{}, api.ErrArg},
		{[]api.Value{{}, {}, {}}, api.Value{}, api.ErrArg},
		{[]api.Value{Int(1), Int(2), Int(1), Int(3)}, api.Value{}, api.ErrTwice},
		{[]api.Value{Int(1), Int(2), Int(5), Int(0), Int(0), Int(0), Int(1), Int(2)}, api.Value{}, api.ErrTwice},
		{[]api.Value{{}, Int(2), {}, Int(3)}, api.Value{}, api.ErrTwice},
		{[]api.Value{Int(1), {}, Int(1), {}}, api.Value{}, api.ErrTwice},
		{append(ints(2*api.MaxList+2), Int(0), Int(0)), api.Value{}, api.ErrTwice},
		{[]api.Value{Int(1), {}}, api.Value{}, api.ErrValue},
		{[]api.Value{{}, Int(1)}, api.Value{}, api.ErrValue},
		{[]api.Value{Vertex(0), Int(1), Vertex(1), Int(1)}, api.Value{}, api.ErrValue},
		{[]api.Value{within(Int(1), api.MaxDeep-2), Int(1)}, dict(within(Int(1), api.MaxDeep-2), Int(1)), api.OK},
		{[]api.Value{within(Int(1), api.MaxDeep-1), Int(1)}, api.Value{}, api.ErrValue},
		{[]api.Value{Int(1), within(Int(1), api.MaxDeep-1)}, api.Value{}, api.ErrValue},
	} {
		v, e := Map(c.l...)
		if e != c.e || !same(v, c.want) || e != api.OK && !zero(v) {
			t.Errorf("Map of %d: %.80s, %d; want %.80s, %d", len(c.l), Text(v), e, Text(c.want), c.e)
		}
	}
}

// P2.7: of a map's keys and values, in any order, Map is that map.
func TestMapInAnyOrder(t *testing.T) {
	r := rand.New(rand.NewSource(5))
	maps := 0
	for _, v := range may() {
		if v.Kind != api.VMap {
			continue
		}
		maps++
		for range 5 {
			var l []api.Value
			for _, at := range r.Perm(len(v.L) / 2) {
				l = append(l, v.L[2*at], v.L[2*at+1])
			}
			m, e := Map(l...)
			if e != api.OK || !same(m, v) {
				t.Fatalf("Map of %s: %s, %d", Text(v), Text(m), e)
			}
		}
	}
	if maps < 20 {
		t.Errorf("only %d maps: the test says too little", maps)
	}
}

// R3: List, Map, Clone and Get answer memory of their own, and leave what they are handed.
func TestMemoryOfItsOwn(t *testing.T) {
	build := func() []api.Value {
		return []api.Value{Str("b"), list(list(Int(1)), Int(2)), Str("a"), dict(Int(1), list(Int(2)))}
	}
	untouched := func(what string, l []api.Value) {
		t.Helper()
		wantSame(t, what, list(l...), list(build()...))
	}
	l := build()
	v, _ := List(l...)
	untouched("List changes nothing", l)
	spoil(v)
	untouched("List shares nothing", l)
	v, _ = Map(l...)
	untouched("Map changes nothing", l)
	spoil(v)
	untouched("Map shares nothing", l)
	spoil(Clone(list(l...)))
	untouched("Clone shares nothing", l)
	got, _ := Get(dict(l...), Str("b"))
	spoil(got)
	untouched("Get shares nothing", l)
}

// P2.2: Clone is the same, of what may not be, too.
func TestClone(t *testing.T) {
	for _, v := range append(append(may(), mayNot()...), rising()...) {
		if !same(Clone(v), v) {
			t.Errorf("Clone(%v): %v", v, Clone(v))
		}
	}
}

// P2.2: the value behind the first key that is the same, of a map alone.
func TestGet(t *testing.T) {
	m := dict(Int(1), Str("one"), list(Int(2)), Str("two"), Edge(3), list(Int(3)))
	for _, c := range []struct {
		what   string
		m, key api.Value
		want   api.Value
		is     bool
	}{
		{"the first", m, Int(1), Str("one"), true},
		{"a list", m, list(Int(2)), Str("two"), true},
		{"the last", m, Edge(3), list(Int(3)), true},
		{"a value, no key", m, Str("one"), api.Value{}, false},
		{"none", m, Int(2), api.Value{}, false},
		{"of another Kind", m, Vertex(3), api.Value{}, false},
		{"zero", m, api.Value{}, api.Value{}, false},
		{"of no map", list(m.L...), Int(1), api.Value{}, false},
		{"of nothing", api.Value{}, Int(1), api.Value{}, false},
		{"of a Kind that is none", api.Value{Kind: 9, L: m.L}, Int(1), api.Value{}, false},
		{"of an empty map", dict(), Int(1), api.Value{}, false},
		{"the first of two", dict(Int(1), Int(7), Int(1), Int(8)), Int(1), Int(7), true},
		{"in no order", dict(Int(2), Int(7), Int(1), Int(8)), Int(1), Int(8), true},
		{"a key without a value", dict(Int(1), Int(7), Int(2)), Int(2), api.Value{}, false},
		{"ahead of a key without a value", dict(Int(1), Int(7), Int(2)), Int(1), Int(7), true},
		{"a value that is zero", dict(Int(1), api.Value{}), Int(1), api.Value{}, true},
		{"a key with another field", dict(Int(1), Int(7)), api.Value{Kind: api.VInt, N: 1, S: "a"}, api.Value{}, false},
	} {
		if v, is := Get(c.m, c.key); is != c.is || !same(v, c.want) {
			t.Errorf("%s: %v, %v", c.what, v, is)
		}
	}
	for _, m := range may() {
		for i := 0; m.Kind == api.VMap && i < len(m.L); i += 2 {
			if v, is := Get(m, m.L[i]); !is || !same(v, m.L[i+1]) {
				t.Fatalf("Get of %s: %v, %v", Text(m.L[i]), v, is)
			}
		}
	}
}

// P2.4: the sum of numbers; the Kind ahead of the room.
func TestSum(t *testing.T) {
	most, least := Int(math.MaxInt64), Int(math.MinInt64)
	for _, c := range []struct {
		l    []api.Value
		want api.Value
		e    api.Errno
	}{
		{nil, Int(0), api.OK},
		{[]api.Value{}, Int(0), api.OK},
		{[]api.Value{Int(5)}, Int(5), api.OK},
		{[]api.Value{Int(2), Int(-7), Int(2)}, Int(-3), api.OK},
		{[]api.Value{most, most, least, least}, Int(-2), api.OK},
		{[]api.Value{most, Int(1), Int(-1)}, most, api.OK},
		{[]api.Value{most, Int(1)}, api.Value{}, api.ErrOver},
		{[]api.Value{least, Int(-1)}, api.Value{}, api.ErrOver},
		{[]api.Value{most, Int(1), Str("a")}, api.Value{}, api.ErrKind},
		{[]api.Value{Bool(true)}, api.Value{}, api.ErrKind},
		{[]api.Value{Int(1), Vertex(1)}, api.Value{}, api.ErrKind},
		{[]api.Value{Edge(1), Int(1)}, api.Value{}, api.ErrKind},
		{[]api.Value{list(Int(1))}, api.Value{}, api.ErrKind},
		{[]api.Value{dict()}, api.Value{}, api.ErrKind},
		{[]api.Value{{}}, api.Value{}, api.ErrKind},
		{[]api.Value{Int(1), {Kind: 8}}, api.Value{}, api.ErrKind},
	} {
		if v, e := Sum(c.l...); e != c.e || !same(v, c.want) {
			t.Errorf("Sum(%v): %v, %d; want %v, %d", c.l, v, e, c.want, c.e)
		}
	}
}

// P2.4: of all texts of one byte and of two those that are names.
func TestNameOfShortTexts(t *testing.T) {
	const first = "_abcdefghijklmnopqrstuvwxyzABCDEFGHIJKLMNOPQRSTUVWXYZ"
	const later = first + "0123456789"
	for a := range 256 {
		head := string([]byte{byte(a)})
		begins := strings.Contains(first, head)
		if Name(head) != begins {
			t.Errorf("Name(%q): %v", head, !begins)
		}
		for b := range 256 {
			tail := string([]byte{byte(b)})
			want := begins && strings.Contains(later, tail)
			if Name(head+tail) != want {
				t.Errorf("Name(%q): %v", head+tail, !want)
			}
			if Name("a"+head+tail+"a") != (strings.Contains(later, head) && strings.Contains(later, tail)) {
				t.Errorf("Name(%q)", "a"+head+tail+"a")
			}
		}
	}
}

// P2.4: a name has 1 to MaxName bytes.
func TestNameByLength(t *testing.T) {
	for n := range 2 * api.MaxName {
		if Name(strings.Repeat("a", n)) != (n >= 1 && n <= api.MaxName) {
			t.Errorf("Name of %d bytes", n)
		}
	}
}
