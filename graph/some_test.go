package graph

import (
	"fmt"
	"maps"
	"math"
	"math/rand"
	"slices"
	"strings"
	"testing"

	"ramble/api"
	"ramble/value"
)

// v and e are a vertex and an edge with properties, p a property.
func v(id int64, label string, props ...api.Prop) api.Vertex {
	return api.Vertex{Id: id, Label: label, Props: props}
}

func e(id int64, label string, out, in int64, props ...api.Prop) api.Link {
	return api.Link{Id: id, Label: label, Out: out, In: in, Props: props}
}

func p(name string, v api.Value) api.Prop { return api.Prop{Name: name, Value: v} }

// list is a list as it is written, whether it may be or not.
func list(l ...api.Value) api.Value { return api.Value{Kind: api.VList, L: l} }

// within is a number in that many lists, one within the other.
func within(lists int) api.Value {
	v := value.Int(1)
	for range lists {
		v = list(v)
	}
	return v
}

// propsNamed are that many properties, whose names begin so and rise.
func propsNamed(name string, many int) []api.Prop {
	var l []api.Prop
	for i := range many {
		l = append(l, p(fmt.Sprintf("%s%02d", name, i), value.Int(int64(i))))
	}
	return l
}

// sample is a graph in which edges go to and fro, twice the same way, and from a vertex to itself; ids are missing, and the last one that was given is gone.
func sample() api.Graph {
	return api.Graph{
		V: []api.Vertex{
			v(1, "person", p("age", value.Int(30)), p("name", value.Str("ann"))),
			v(2, "person", p("age", value.Int(40)), p("friends", list(value.Vertex(1), list(value.Edge(5)))), p("name", value.Str("bob"))),
			v(4, "city", p("name", value.Str("rome"))),
			v(9, "person"),
		},
		E: []api.Link{
			e(3, "knows", 1, 2, p("since", value.Int(1999))),
			e(5, "knows", 2, 1),
			e(6, "lives", 1, 4, p("age", value.Int(30)), p("what", list(value.Str("a")))),
			e(7, "knows", 1, 2, p("since", value.Int(2001))),
			e(8, "likes", 2, 2),
			e(10, "lives", 2, 4),
		},
		Last: 12,
	}
}

// tell is all that a graph has as a text, in which nil and empty lists are the same.
func tell(g api.Graph) string {
	var s strings.Builder
	fmt.Fprintf(&s, "last %d", g.Last)
	for _, x := range g.V {
		s.WriteString("\n" + tellVertex(x))
	}
	for _, x := range g.E {
		s.WriteString("\n" + tellLink(x))
	}
	return s.String()
}

func tellVertex(x api.Vertex) string {
	return fmt.Sprintf("v %d %q", x.Id, x.Label) + tellProps(x.Props)
}

func tellLink(x api.Link) string {
	return fmt.Sprintf("e %d %q %d %d", x.Id, x.Label, x.Out, x.In) + tellProps(x.Props)
}

func tellProps(l []api.Prop) string {
	var s strings.Builder
	for _, x := range l {
		fmt.Fprintf(&s, " %q: %s", x.Name, tellValue(x.Value))
	}
	return s.String()
}

// tellValue tells all fields, whatever the kind is.
func tellValue(x api.Value) string {
	s := fmt.Sprintf("(%d %d %q", x.Kind, x.N, x.S)
	for _, y := range x.L {
		s += " " + tellValue(y)
	}
	return s + ")"
}

func wantGraph(t *testing.T, what string, got, want api.Graph) {
	t.Helper()
	if tell(got) != tell(want) {
		t.Fatalf("%s:\ngot  %s\nwant %s", what, tell(got), tell(want))
	}
}

func wantErr(t *testing.T, what string, got, want api.Errno) {
	t.Helper()
	if got != want {
		t.Fatalf("%s: got the error %d, want %d", what, got, want)
	}
}

// mayBe is the chapter's sentence of graphs that may be, word by word.
func mayBe(g api.Graph) bool {
	if g.Last < 0 || g.Last > 1<<48 || len(g.V) > 2048 || len(g.E) > 2048 {
		return false
	}
	vertices := map[int64]int{}
	for i, x := range g.V {
		if i > 0 && g.V[i-1].Id >= x.Id || !mayStand(g, x.Id, x.Label, x.Props) {
			return false
		}
		vertices[x.Id]++
	}
	for i, x := range g.E {
		if i > 0 && g.E[i-1].Id >= x.Id || !mayStand(g, x.Id, x.Label, x.Props) {
			return false
		}
		if vertices[x.Id] != 0 || vertices[x.Out] == 0 || vertices[x.In] == 0 {
			return false
		}
	}
	return true
}

func mayStand(g api.Graph, id int64, label string, props []api.Prop) bool {
	if id < 1 || id > g.Last || !value.Name(label) || len(props) > 16 {
		return false
	}
	for i, x := range props {
		if i > 0 && props[i-1].Name >= x.Name || !value.Name(x.Name) || value.Check(x.Value) != api.OK {
			return false
		}
	}
	return true
}

// long is a name of that many bytes that begins with s.
func long(s string, length int) string { return s + strings.Repeat("_", length-len(s)) }

// full is a graph of that many vertices, and that many edges behind them, each from one to the next one.
func full(vertices, edges int) api.Graph {
	g := api.Graph{Last: int64(vertices + edges)}
	for i := range vertices {
		g.V = append(g.V, v(int64(i+1), "a"))
	}
	for i := range edges {
		g.E = append(g.E, e(int64(vertices+i+1), "b", int64(i%vertices+1), int64((i+1)%vertices+1)))
	}
	return g
}

// may are graphs that may be, with the edges that the chapter and the limits name, and some by chance.
func may() []api.Graph {
	const far = api.MaxId
	l := []api.Graph{
		{}, {Last: 1}, {Last: far}, {V: []api.Vertex{}, E: []api.Link{}, Last: 7}, sample(),
		{V: []api.Vertex{v(1, "a")}, Last: 1},
		{V: []api.Vertex{v(1, "_")}, E: []api.Link{e(2, "_9", 1, 1)}, Last: 2},
		{V: []api.Vertex{v(2, "a")}, E: []api.Link{e(1, "a", 2, 2)}, Last: 2},
		{V: []api.Vertex{v(far, "a")}, E: []api.Link{e(far-1, "a", far, far)}, Last: far},
		{V: []api.Vertex{v(far-1, long("a", 24))}, E: []api.Link{e(far, long("Z", 24), far-1, far-1)}, Last: far},
		{V: []api.Vertex{v(1, "a", propsNamed("a", 16)...)}, E: []api.Link{e(2, "a", 1, 1, propsNamed("a", 16)...)}, Last: 2},
		{V: []api.Vertex{v(1, "a", p("A", value.Int(1)), p("_", value.Int(1)), p("a", within(7)), p("a0", value.Str(strings.Repeat("x", 128))), p(long("b", 24), value.Vertex(far)))}, Last: 5},
	}
	r := rand.New(rand.NewSource(10))
	for range 100 {
		l = append(l, someGraph(r, r.Intn(6), r.Intn(8)))
	}
	return l
}

// someGraph is a graph by chance that may be: at most that many vertices and edges, their ids mixed, with some missing.
func someGraph(r *rand.Rand, vertices, edges int) api.Graph {
	g := api.Graph{}
	var ids []int64
	for range vertices + edges {
		g.Last += 1 + int64(r.Intn(3)*r.Intn(2))
		ids = append(ids, g.Last)
	}
	r.Shuffle(len(ids), func(i, j int) { ids[i], ids[j] = ids[j], ids[i] })
	slices.Sort(ids[:vertices])
	slices.Sort(ids[vertices:])
	for _, id := range ids[:vertices] {
		g.V = append(g.V, v(id, someName(r), someProps(r)...))
	}
	for _, id := range ids[vertices:] {
		if vertices > 0 {
			g.E = append(g.E, e(id, someName(r), ids[r.Intn(vertices)], ids[r.Intn(vertices)], someProps(r)...))
		}
	}
	g.Last += int64(r.Intn(3))
	return g
}

func someName(r *rand.Rand) string {
	return []string{"a", "b", "B", "_", "ab", "a1", "knows"}[r.Intn(7)]
}

func someProps(r *rand.Rand) []api.Prop {
	var l []api.Prop
	for _, name := range []string{"B", "_", "a", "a1", "ab", "b"} {
		if r.Intn(3) == 0 {
			l = append(l, p(name, someValue(r)))
		}
	}
	return l
}

// someValue is one of few values, so that elements have the same ones.
func someValue(r *rand.Rand) api.Value {
	one := value.Int(int64(r.Intn(2)))
	switch r.Intn(6) {
	case 0:
		return value.Str("x")
	case 1:
		return value.Bool(one.N == 1)
	case 2:
		return list(one, list(value.Vertex(1)))
	case 3:
		return list()
	}
	return one
}

// fault is what makes a graph that may be one that may not.
type fault struct {
	what string
	make func(g *api.Graph)
}

// faults are changes of the sample, each with one fault alone.
func faults() []fault {
	l := []fault{
		{"Last -1", func(g *api.Graph) { *g = api.Graph{Last: -1} }},
		{"the least Last", func(g *api.Graph) { *g = api.Graph{Last: math.MinInt64} }},
		{"Last one above MaxId", func(g *api.Graph) { g.Last = api.MaxId + 1 }},
		{"the greatest Last", func(g *api.Graph) { g.Last = math.MaxInt64 }},
		{"Last 0 with elements", func(g *api.Graph) { g.Last = 0 }},
		{"a vertex above Last", func(g *api.Graph) { g.Last, g.E = 8, g.E[:5] }},
		{"an edge above Last", func(g *api.Graph) { g.Last = 9 }},
		{"too many vertices", func(g *api.Graph) { *g = full(2049, 0) }},
		{"too many edges", func(g *api.Graph) { *g = full(1, 2049) }},
		{"a vertex 0", func(g *api.Graph) { g.V = append([]api.Vertex{v(0, "a")}, g.V...) }},
		{"a vertex -1", func(g *api.Graph) { g.V = append([]api.Vertex{v(-1, "a")}, g.V...) }},
		{"an edge 0", func(g *api.Graph) { g.E = append([]api.Link{e(0, "a", 1, 1)}, g.E...) }},
		{"an edge -1", func(g *api.Graph) { g.E = append([]api.Link{e(-1, "a", 1, 1)}, g.E...) }},
		{"a vertex twice", func(g *api.Graph) { g.V = append(g.V, g.V[3]) }},
		{"an edge twice", func(g *api.Graph) { g.E = append(g.E, g.E[5]) }},
		{"vertices that fall", func(g *api.Graph) { g.V[0], g.V[1] = g.V[1], g.V[0] }},
		{"vertices that fall at last", func(g *api.Graph) { g.V[2], g.V[3] = g.V[3], g.V[2] }},
		{"edges that fall", func(g *api.Graph) { g.E[0], g.E[1] = g.E[1], g.E[0] }},
		{"edges that fall at last", func(g *api.Graph) { g.E[4], g.E[5] = g.E[5], g.E[4] }},
		{"an edge with a vertex's id", func(g *api.Graph) { g.E[1].Id = 4 }},
		{"a vertex with an edge's id", func(g *api.Graph) { g.V[3].Id = 10 }},
		{"an edge with the first vertex's id", func(g *api.Graph) { g.E[0].Id = 1 }},
	}
	for _, id := range []int64{0, -1, 3, 5, 11, 12, 13, math.MinInt64, math.MaxInt64} {
		l = append(l,
			fault{fmt.Sprint("Out ", id), func(g *api.Graph) { g.E[0].Out = id }},
			fault{fmt.Sprint("In ", id), func(g *api.Graph) { g.E[5].In = id }})
	}
	for _, s := range []string{"", "9", "a-", "a b", "a\x00", "ä", long("a", 25)} {
		l = append(l,
			fault{fmt.Sprintf("a vertex's label %q", s), func(g *api.Graph) { g.V[2].Label = s }},
			fault{fmt.Sprintf("an edge's label %q", s), func(g *api.Graph) { g.E[3].Label = s }})
	}
	bad := badProps()
	for _, what := range slices.Sorted(maps.Keys(bad)) {
		props := bad[what]
		l = append(l,
			fault{"a vertex's properties: " + what, func(g *api.Graph) { g.V[3].Props = props }},
			fault{"an edge's properties: " + what, func(g *api.Graph) { g.E[0].Props = props }})
	}
	return l
}

// badProps are properties that may not be, by what is amiss.
func badProps() map[string][]api.Prop {
	one := value.Int(1)
	l := map[string][]api.Prop{
		"too many":        propsNamed("a", 17),
		"far too many":    propsNamed("a", 40),
		"a name twice":    {p("a", one), p("a", value.Int(2))},
		"names that fall": {p("b", one), p("a", one)},
		"at last":         {p("a", one), p("c", one), p("b", one)},
		"not by bytes":    {p("a", one), p("B", one)},
	}
	for _, s := range []string{"", "9", "a-", " a", "a\xff", long("a", 25)} {
		l[fmt.Sprintf("the name %q", s)] = []api.Prop{p(s, one)}
	}
	for _, x := range badValues() {
		l["the value "+tellValue(x)] = []api.Prop{p("a", one), p("b", x)}
	}
	return l
}

// badValues are values that value.Check refuses.
func badValues() []api.Value {
	return []api.Value{
		{}, {Kind: 8}, {Kind: -1}, {Kind: api.VInt, S: "a"}, {Kind: api.VBool, N: 2}, value.Vertex(0), value.Edge(api.MaxId + 1),
		value.Str(strings.Repeat("x", 129)), list(value.Int(1), api.Value{}), within(8), {Kind: api.VMap, L: []api.Value{value.Int(1)}},
	}
}

// mayNot are graphs that may not be: the faults, and some that are made by chance of all that a graph can have.
func mayNot() []api.Graph {
	var l []api.Graph
	for _, f := range faults() {
		g := sample()
		f.make(&g)
		l = append(l, g)
	}
	r := rand.New(rand.NewSource(100))
	for range 200 {
		if g := wild(r); !mayBe(g) {
			l = append(l, g)
		}
	}
	return l
}

// wild is a graph of anything.
func wild(r *rand.Rand) api.Graph {
	id := func() int64 {
		if r.Intn(12) == 0 {
			return []int64{math.MinInt64, -1, 0, api.MaxId, math.MaxInt64}[r.Intn(5)]
		}
		return 1 + int64(r.Intn(5))
	}
	name := func() string { return []string{"a", "b", "", "9", "ab"}[r.Intn(5)] }
	props := func() []api.Prop {
		var l []api.Prop
		for range r.Intn(4) * r.Intn(2) {
			x := someValue(r)
			if r.Intn(5) == 0 {
				x = badValues()[r.Intn(len(badValues()))]
			}
			l = append(l, p(name(), x))
		}
		return l
	}
	g := api.Graph{Last: id()}
	for range r.Intn(6) {
		g.V = append(g.V, v(id(), name(), props()...))
	}
	for range r.Intn(8) {
		g.E = append(g.E, e(id(), name(), id(), id(), props()...))
	}
	return g
}

// anyGraphs are graphs of all sorts, but for the great ones: some that may be, and some of anything.
func anyGraphs() []api.Graph {
	l := may()[:60]
	r := rand.New(rand.NewSource(11))
	for range 80 {
		l = append(l, wild(r))
	}
	return l
}

// idsIn are all ids that stand in g, each once, and some that do not.
func idsIn(g api.Graph) []int64 {
	l := []int64{math.MinInt64, -1, 0, 1, 2, 11, g.Last, api.MaxId, math.MaxInt64}
	for _, x := range g.V {
		l = append(l, x.Id)
	}
	for _, x := range g.E {
		l = append(l, x.Id, x.Out, x.In)
	}
	slices.Sort(l)
	return slices.Compact(l)
}

// elemsFor are the elements of g, and of the other kind with those ids, and some that there are not.
func elemsFor(g api.Graph) []api.Value {
	var l []api.Value
	for _, id := range idsIn(g) {
		l = append(l, value.Vertex(id), value.Edge(id))
	}
	return append(append(l, noElems()...), withFields()...)
}

// withFields are values of the kinds and ids of elements of a sample, with a field that an element does not have: they are none.
func withFields() []api.Value {
	var l []api.Value
	for _, elem := range []api.Value{value.Vertex(1), value.Vertex(5), value.Vertex(9), value.Edge(3), value.Edge(5), value.Edge(6)} {
		withText, withList, withBoth := elem, elem, elem
		withText.S, withList.L = "a", []api.Value{{}}
		withBoth.S, withBoth.L = "\x00", []api.Value{value.Int(1), elem}
		l = append(l, withText, withList, withBoth)
	}
	return l
}

// noElems are values that are no elements of any graph.
func noElems() []api.Value {
	return []api.Value{
		{}, value.Int(1), value.Int(3), value.Str("v[1]"), value.Bool(true), list(), list(value.Vertex(1)),
		{Kind: api.VList, N: 1}, {Kind: api.VMap}, {Kind: api.VMap, N: 3}, {Kind: -1, N: 1}, {Kind: 8, N: 1}, {Kind: math.MinInt, N: 1}, {Kind: math.MaxInt, N: 3},
	}
}
