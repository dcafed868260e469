package keys

import (
	"fmt"
	"math"
	"math/rand"
	"slices"
	"strings"
	"testing"

	"ramble/api"
	"ramble/value"
)

const far = api.MaxId

// v and e are a vertex and an edge with properties, p a property.
func v(id int64, label string, props ...api.Prop) api.Vertex {
	return api.Vertex{Id: id, Label: label, Props: props}
}

func e(id int64, label string, out, in int64, props ...api.Prop) api.Link {
	return api.Link{Id: id, Label: label, Out: out, In: in, Props: props}
}

func p(name string, v api.Value) api.Prop { return api.Prop{Name: name, Value: v} }

// entry is an entry as its bytes are written.
func entry(key, val string) api.Entry { return api.Entry{Key: []byte(key), Val: []byte(val)} }

// list and dict are a list and a map as they are written, whether they may be or not.
func list(l ...api.Value) api.Value { return api.Value{Kind: api.VList, L: l} }

func dict(l ...api.Value) api.Value { return api.Value{Kind: api.VMap, L: l} }

func str(c string, often int) api.Value { return value.Str(strings.Repeat(c, often)) }

// within is v in that many lists, one within the other.
func within(v api.Value, lists int) api.Value {
	for range lists {
		v = list(v)
	}
	return v
}

// many is v as often as asked, one behind the other.
func many(v api.Value, often int) []api.Value { return slices.Repeat([]api.Value{v}, often) }

// long is a name of that many bytes that begins with s.
func long(s string, length int) string { return s + strings.Repeat("_", length-len(s)) }

// named are that many properties, whose names begin so and rise.
func named(name string, many int) []api.Prop {
	var l []api.Prop
	for i := range many {
		l = append(l, p(fmt.Sprintf("%s%02d", name, i), value.Int(int64(i))))
	}
	return l
}

// plain are values without others within that may be, with the edges of their kinds among them.
func plain() []api.Value {
	return []api.Value{
		value.Int(0), value.Int(1), value.Int(-1), value.Int(63), value.Int(64), value.Int(-64), value.Int(-65), value.Int(300), value.Int(-8193),
		value.Int(math.MinInt64), value.Int(math.MinInt64 + 1), value.Int(math.MaxInt64 - 1), value.Int(math.MaxInt64),
		value.Str(""), value.Str("a"), value.Str("it's"), value.Str("\x00"), value.Str("a\x00\x01"), value.Str("\xff\x00\xff"),
		str("a", 36), str("a", 37), str("a", 38), str("a", 39), str("\x00", 18), str("\x00", 19), str("\x00", 20), str("b", 127), str("b", 128), str("\x00", 128), str("\xff", 128),
		value.Bool(false), value.Bool(true),
		value.Vertex(1), value.Vertex(127), value.Vertex(128), value.Vertex(far - 1), value.Vertex(far),
		value.Edge(1), value.Edge(300), value.Edge(far - 1), value.Edge(far),
	}
}

// may are values that may be: plain ones, lists and maps up to the limits, and some by chance.
func may() []api.Value {
	l := append(plain(),
		list(), dict(), list(list(), dict()), list(value.Int(1), value.Str("a")), dict(value.Str("a"), list(value.Bool(true)), value.Str("b"), value.Int(1)),
		list(many(value.Bool(true), 18)...), list(many(value.Bool(true), 19)...), list(many(value.Bool(true), 20)...), list(many(value.Bool(true), api.MaxList)...),
		list(append(many(value.Bool(true), 17), value.Int(300))...), list(append(many(value.Bool(true), 18), value.Int(300))...),
		list(str("a", 35)), list(str("a", 36)), list(str("a", 37)), list(str("a", 128)), list(many(str("\xff", 128), api.MaxList)...),
		within(value.Int(-1), api.MaxDeep-1), within(list(), api.MaxDeep-1), within(str("a", 128), api.MaxDeep-1), within(dict(), api.MaxDeep-1),
		dict(value.Int(1), str("a", 33)), dict(value.Int(1), str("a", 34)), dict(value.Int(1), str("a", 35)), rising(3), rising(api.MaxList),
	)
	r := rand.New(rand.NewSource(11))
	for range 300 {
		l = append(l, someValue(r, 1))
	}
	return l
}

// rising is a map of that many keys.
func rising(keys int) api.Value {
	var l []api.Value
	for i := range keys {
		l = append(l, value.Int(int64(i)-5), value.Bool(true))
	}
	return dict(l...)
}

// someValue is a value by chance that may be, where it stands that deep.
func someValue(r *rand.Rand, deep int) api.Value {
	pool := plain()
	if deep >= api.MaxDeep || deep > 1 && r.Intn(2) > 0 {
		return pool[r.Intn(len(pool))]
	}
	l := make([]api.Value, r.Intn(5))
	for i := range l {
		l[i] = someValue(r, deep+1)
	}
	if r.Intn(2) == 0 {
		return list(l...)
	}
	slices.SortFunc(l, value.Compare)
	var pairs []api.Value
	for _, key := range slices.CompactFunc(l, value.Same) {
		pairs = append(pairs, key, someValue(r, deep+1))
	}
	return dict(pairs...)
}

// mayNot are values that value.Check refuses.
func mayNot() []api.Value {
	l := []api.Value{
		{}, {Kind: -1}, {Kind: 8}, {Kind: 256 + api.VInt}, {Kind: math.MaxInt},
		{Kind: api.VInt, S: "a"}, {Kind: api.VStr, N: 1}, {Kind: api.VBool, L: many(value.Int(1), 1)}, {Kind: api.VVertex, N: 1, S: "a"},
		{Kind: api.VList, N: 1}, {Kind: api.VMap, S: "a"}, {Kind: api.VBool, N: 2}, {Kind: api.VBool, N: -1},
		value.Vertex(0), value.Vertex(-1), value.Vertex(far + 1), value.Edge(0), value.Edge(math.MinInt64), value.Edge(far + 1),
		str("a", api.MaxText+1), list(many(value.Int(1), api.MaxList+1)...), rising(api.MaxList + 1),
		dict(value.Int(1)), dict(value.Int(2), value.Int(0), value.Int(1), value.Int(0)), dict(many(value.Int(1), 4)...), within(value.Int(1), api.MaxDeep),
	}
	for _, v := range l {
		l = append(l, list(v), dict(value.Int(1), v))
	}
	return l
}

// names are labels and names that are names, noNames such as are none, the last two of which codec.Key refuses.
func names() []string {
	return []string{"a", "_", "Z9", "person", "knows", long("a", 23), long("b", 24)}
}

func noNames() []string {
	return []string{"", "9", "a b", "a\x00", "\x00\x01", "\xff", "ä", "a'", long("a", 25), long("a", 128), long("a", 129), strings.Repeat("\x00", 200)}
}

// noIds are numbers that are no ids, ids such as are.
func noIds() []int64 { return []int64{0, -1, math.MinInt64, far + 1, 2 * far, math.MaxInt64} }

func ids() []int64 { return []int64{1, 2, 127, 128, 255, 256, 1 << 32, far - 1, far} }

// vertices and links are such as may stand in a graph, with the edges that the chapter and the limits name, and some by chance.
func vertices() []api.Vertex {
	var l []api.Vertex
	for _, id := range ids() {
		l = append(l, v(id, "person"))
	}
	for _, x := range names() {
		l = append(l, v(7, x), v(8, x, p(x, value.Int(1))), v(9, "a", p("A", value.Str(x)), p(x, list())))
	}
	for _, x := range may() {
		l = append(l, v(7, "person", p("age", x)))
	}
	l = append(l, v(1, "a", named("a", 1)...), v(2, "a", named("a", api.MaxProps-1)...), v(3, "a", named(long("a", 22), api.MaxProps)...))
	r := rand.New(rand.NewSource(12))
	for range 100 {
		l = append(l, v(1+r.Int63n(far), names()[r.Intn(len(names()))], someProps(r)...))
	}
	return l
}

func links() []api.Link {
	var l []api.Link
	for _, id := range ids() {
		l = append(l, e(id, "knows", 7, 8), e(9, "knows", id, 8), e(9, "knows", 7, id), e(id, "knows", id, id))
	}
	for _, x := range vertices() {
		l = append(l, e(x.Id, x.Label, far+1-x.Id, x.Id%300+1, x.Props...))
	}
	return l
}

func someProps(r *rand.Rand) []api.Prop {
	l := named("p", r.Intn(5))
	for i := range l {
		l[i].Value = someValue(r, 1+r.Intn(2))
	}
	return l
}

// oddVertices and oddLinks are vertices and edges that may stand in no graph, but for which there are entries: only their ids are ids.
func oddVertices() []api.Vertex {
	var l []api.Vertex
	for _, x := range noNames() {
		l = append(l, v(7, x), v(7, "a", p(x, value.Int(1))), v(7, x, p(x, value.Str(x))))
	}
	for _, x := range mayNot() {
		l = append(l, v(7, "a", p("age", x)), v(7, "a", p("age", x), p("b", value.Int(1))))
	}
	one := p("a", value.Int(1))
	return append(l, v(7, "a", named("a", api.MaxProps+1)...), v(7, "a", named("a", 200)...),
		v(7, "a", p("b", value.Int(1)), one), v(7, "a", one, one), v(7, "a", one, p("a", value.Int(2))), v(7, "a", one, p("b", value.Int(1)), p("aa", value.Int(1))))
}

func oddLinks() []api.Link {
	var l []api.Link
	for _, x := range oddVertices() {
		l = append(l, e(9, x.Label, 7, 8, x.Props...))
	}
	return l
}

// without are vertices, and edges, of which there are no entries.
func vertexWithout() []api.Vertex {
	var l []api.Vertex
	for _, id := range noIds() {
		l = append(l, v(id, "a", p("b", value.Int(1))))
	}
	return l
}

func linkWithout() []api.Link {
	var l []api.Link
	for _, id := range noIds() {
		l = append(l, e(id, "a", 1, 2, p("b", value.Int(1))), e(3, "a", id, 2), e(3, "a", 1, id), e(id, "a", id, id))
	}
	return l
}

// same holds field against field.
func same(a, b api.Value) bool {
	return a.Kind == b.Kind && a.N == b.N && a.S == b.S && slices.EqualFunc(a.L, b.L, same)
}

func sameProp(a, b api.Prop) bool { return a.Name == b.Name && same(a.Value, b.Value) }

func sameVertex(a, b api.Vertex) bool {
	return a.Id == b.Id && a.Label == b.Label && slices.EqualFunc(a.Props, b.Props, sameProp)
}

func sameLink(a, b api.Link) bool {
	return a.Id == b.Id && a.Label == b.Label && a.Out == b.Out && a.In == b.In && slices.EqualFunc(a.Props, b.Props, sameProp)
}

func zero(v api.Value) bool { return v.Kind == 0 && v.N == 0 && v.S == "" && v.L == nil }

func wantBytes(t *testing.T, what string, got []byte, want string) {
	t.Helper()
	if string(got) != want {
		t.Fatalf("%s:\ngot  %v\nwant %v", what, got, []byte(want))
	}
}

func rowOf(x api.Entry) row { return row{string(x.Key), string(x.Val)} }

// eachChange hands on an entry, and it changed: its key or its value cut short at each place, with a byte more there, without one, or with any other one.
func eachChange(x row, use func(x row)) {
	use(x)
	eachOther(x.key, func(s string) { use(row{s, x.val}) })
	eachOther(x.val, func(s string) { use(row{x.key, s}) })
}

func eachOther(s string, use func(s string)) {
	for i := range len(s) + 1 {
		use(s[:i])
		for _, c := range []byte{0, 1, 2, 6, 7, 'a', 127, 128, 255} {
			use(s[:i] + string([]byte{c}) + s[i:])
		}
	}
	for i := range len(s) {
		use(s[:i] + s[i+1:])
		for c := range 256 {
			if byte(c) != s[i] {
				use(s[:i] + string([]byte{byte(c)}) + s[i+1:])
			}
		}
	}
}
