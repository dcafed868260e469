package delta

import (
	"fmt"
	"math"
	"math/rand"
	"slices"
	"strings"
	"testing"

	"ramble/api"
	"ramble/value"
)

// v and e are a vertex and an edge with properties, p a property.
func v(id int64, label string, props ...api.Prop) api.Vertex {
	return api.Vertex{Id: id, Label: label, Props: props}
}

func e(id int64, label string, out, in int64, props ...api.Prop) api.Link {
	return api.Link{Id: id, Label: label, Out: out, In: in, Props: props}
}

func p(name string, v api.Value) api.Prop { return api.Prop{Name: name, Value: v} }

// The changes, one of each kind; elem is an id, and below 0 that of an edge.
func addsV(id int64, label string) api.Change {
	return api.Change{Kind: api.ChAddV, Elem: value.Vertex(id), Label: label}
}

func addsE(id int64, label string, out, in int64) api.Change {
	return api.Change{Kind: api.ChAddE, Elem: value.Edge(id), Label: label, Out: out, In: in}
}

func sets(elem int64, name string, v api.Value) api.Change {
	return api.Change{Kind: api.ChSet, Elem: elemOf(elem), Name: name, Value: v}
}

func unsets(elem int64, name string) api.Change {
	return api.Change{Kind: api.ChUnset, Elem: elemOf(elem), Name: name}
}

func dropsIt(elem int64) api.Change { return api.Change{Kind: api.ChDrop, Elem: elemOf(elem)} }

func lastIs(id int64) api.Change { return api.Change{Kind: api.ChLast, Out: id} }

func elemOf(id int64) api.Value {
	if id < 0 {
		return value.Edge(-id)
	}
	return value.Vertex(id)
}

// list is a list as it is written, whether it may be or not.
func list(l ...api.Value) api.Value { return api.Value{Kind: api.VList, L: l} }

// within is a number in that many lists, one within the other.
func within(lists int) api.Value {
	v := value.Int(1)
	for range lists {
		v = list(v)
	}
	return v
}

// long is a name of that many bytes that begins with s.
func long(s string, length int) string { return s + strings.Repeat("_", length-len(s)) }

// propsNamed are that many properties, whose names begin so and rise.
func propsNamed(name string, many int) []api.Prop {
	var l []api.Prop
	for i := range many {
		l = append(l, p(fmt.Sprintf("%s%02d", name, i), value.Int(int64(i))))
	}
	return l
}

// sample is a graph in which edges go to and fro, twice the same way, and from a vertex to itself; ids are missing, and the last one that was given is gone.
func sample() api.Graph {
	return api.Graph{
		V: []api.Vertex{
			v(1, "person", p("age", value.Int(30)), p("name", value.Str("ann"))),
			v(2, "person", p("age", value.Int(40)), p("friends", list(value.Vertex(1), list(value.Edge(5)))), p("name", value.Str("bob"))),
			v(4, "city", p("name", value.Str("rome"))),
			v(9, "person"),
		},
		E: []api.Link{
			e(3, "knows", 1, 2, p("since", value.Int(1999))),
			e(5, "knows", 2, 1),
			e(6, "lives", 1, 4, p("age", value.Int(30)), p("what", list(value.Str("a")))),
			e(7, "knows", 1, 2, p("since", value.Int(2001))),
			e(8, "likes", 2, 2),
			e(10, "lives", 2, 4),
		},
		Last: 12,
	}
}

// full is a graph of that many vertices, and that many edges behind them, each from one to the next one.
func full(vertices, edges int) api.Graph {
	g := api.Graph{Last: int64(vertices + edges)}
	for i := range vertices {
		g.V = append(g.V, v(int64(i+1), "a"))
	}
	for i := range edges {
		g.E = append(g.E, e(int64(vertices+i+1), "b", int64(i%vertices+1), int64((i+1)%vertices+1)))
	}
	return g
}

// may are graphs that may be: such as the limits name, and some by chance.
func may() []api.Graph {
	const far = api.MaxId
	l := []api.Graph{
		{}, {Last: 1}, {Last: far}, {V: []api.Vertex{}, E: []api.Link{}, Last: 7}, sample(),
		{V: []api.Vertex{v(1, "a")}, Last: 1},
		{V: []api.Vertex{v(2, "a")}, E: []api.Link{e(1, "a", 2, 2)}, Last: 2},
		{V: []api.Vertex{v(far, "a")}, E: []api.Link{e(far-1, "a", far, far)}, Last: far},
		{V: []api.Vertex{v(1, "a", propsNamed("a", 16)...)}, E: []api.Link{e(2, "a", 1, 1, propsNamed("a", 16)...)}, Last: 2},
		{V: []api.Vertex{v(1, "a", propsNamed("b", 16)...)}, E: []api.Link{e(2, "a", 1, 1, propsNamed("b", 16)...)}, Last: 2},
	}
	r := rand.New(rand.NewSource(13))
	for range 60 {
		l = append(l, someGraph(r, 1+r.Intn(4), r.Intn(6)))
	}
	return l
}

// someGraph is a graph by chance that may be: of few ids, so that two of them have many in common, and of both kinds.
func someGraph(r *rand.Rand, vertices, edges int) api.Graph {
	ids := r.Perm(12)[:vertices+edges]
	slices.Sort(ids[:vertices])
	slices.Sort(ids[vertices:])
	g := api.Graph{Last: int64(slices.Max(ids) + 1 + r.Intn(4))}
	for _, id := range ids[:vertices] {
		g.V = append(g.V, v(int64(id+1), someName(r), someProps(r)...))
	}
	for _, id := range ids[vertices:] {
		g.E = append(g.E, e(int64(id+1), someName(r), g.V[r.Intn(vertices)].Id, g.V[r.Intn(vertices)].Id, someProps(r)...))
	}
	return g
}

func someName(r *rand.Rand) string { return []string{"a", "a", "a", "B"}[r.Intn(4)] }

func someProps(r *rand.Rand) []api.Prop {
	var l []api.Prop
	for _, name := range []string{"B", "_", "a", "a1"} {
		if r.Intn(3) == 0 {
			l = append(l, p(name, someValue(r)))
		}
	}
	return l
}

// someValue is one of few values, so that elements have the same ones.
func someValue(r *rand.Rand) api.Value {
	switch r.Intn(5) {
	case 0:
		return value.Str("x")
	case 1:
		return value.Bool(r.Intn(2) == 1)
	case 2:
		return list(value.Int(1), list(value.Vertex(1)))
	}
	return value.Int(int64(r.Intn(2)))
}

// near is g with few changes by chance, as a graph.
func near(r *rand.Rand, g api.Graph, changes int) api.Graph {
	for range changes {
		if h, many, _ := Apply(g, someChange(r)); many == 1 {
			g = h
		}
	}
	return g
}

// someChange is a change that may be, of few ids.
func someChange(r *rand.Rand) api.Change {
	id := func() int64 { return 1 + int64(r.Intn(12)) }
	elem := id() * int64(1-2*r.Intn(2))
	switch 1 + r.Intn(6) {
	case api.ChAddV:
		return addsV(id(), someName(r))
	case api.ChAddE:
		return addsE(id(), someName(r), id(), id())
	case api.ChSet:
		return sets(elem, []string{"B", "_", "a", "a1"}[r.Intn(4)], someValue(r))
	case api.ChUnset:
		return unsets(elem, []string{"B", "_", "a", "a1"}[r.Intn(4)])
	case api.ChDrop:
		return dropsIt(elem)
	}
	return lastIs(id() + 8)
}

func someChanges(r *rand.Rand, most int) Changes {
	var l Changes
	for range r.Intn(most + 1) {
		l = append(l, someChange(r))
	}
	return l
}

// wildChange is a change of anything, often one that may be but for one field.
func wildChange(r *rand.Rand) api.Change {
	c := someChange(r)
	switch r.Intn(12) {
	case 0:
		c.Kind = []int{math.MinInt, -1, 0, 7, math.MaxInt}[r.Intn(5)]
	case 1:
		c.Kind = 1 + r.Intn(6)
	case 2:
		c.Elem = wildElems()[r.Intn(len(wildElems()))]
	case 3:
		c.Label = []string{"", "a", "9"}[r.Intn(3)]
	case 4:
		c.Out = wildIds()[r.Intn(len(wildIds()))]
	case 5:
		c.In = wildIds()[r.Intn(len(wildIds()))]
	case 6:
		c.Name = []string{"", "a", "9"}[r.Intn(3)]
	case 7:
		c.Value = badValues()[r.Intn(len(badValues()))]
	}
	return c
}

func wildChanges(r *rand.Rand, most int) Changes {
	var l Changes
	for range r.Intn(most + 1) {
		l = append(l, wildChange(r))
	}
	return l
}

func wildIds() []int64 {
	return []int64{math.MinInt64, -1, 0, 1, 2, 3, api.MaxId - 1, api.MaxId, api.MaxId + 1, math.MaxInt64}
}

// wildElems are values of which few are elements.
func wildElems() []api.Value {
	l := []api.Value{
		{}, value.Int(1), value.Str("v[1]"), value.Bool(true), list(), list(value.Vertex(1)), {Kind: api.VList, N: 1}, {Kind: api.VMap, N: 1},
		{Kind: -1, N: 1}, {Kind: 8, N: 1}, {Kind: math.MinInt, N: 1}, {Kind: math.MaxInt, N: 1}, {N: 1}, {S: "a"}, {L: []api.Value{{}}},
	}
	for _, id := range wildIds() {
		l = append(l, value.Vertex(id), value.Edge(id))
	}
	for _, elem := range []api.Value{value.Vertex(1), value.Edge(3)} {
		withText, withList, withNone := elem, elem, elem
		withText.S, withList.L, withNone.L = "a", []api.Value{{}}, []api.Value{}
		l = append(l, withText, withList, withNone)
	}
	return l
}

// badValues are values that value.Check refuses.
func badValues() []api.Value {
	return []api.Value{
		{Kind: 8}, {Kind: -1}, {Kind: api.VInt, S: "a"}, {Kind: api.VBool, N: 2}, value.Vertex(0), value.Edge(api.MaxId + 1), {N: 1}, {S: "a"}, {L: []api.Value{{}}},
		value.Str(strings.Repeat("x", 129)), list(value.Int(1), api.Value{}), within(8), {Kind: api.VMap, L: []api.Value{value.Int(1)}},
	}
}

// goodValues are values at the edges of what may be.
func goodValues() []api.Value {
	return []api.Value{
		value.Int(0), value.Int(math.MinInt64), value.Str(""), value.Str(strings.Repeat("\x00", 128)), value.Bool(false), list(), within(7),
		value.Vertex(1), value.Edge(api.MaxId), {Kind: api.VMap}, {Kind: api.VMap, L: []api.Value{value.Int(1), list()}}, {Kind: api.VInt, L: []api.Value{}},
	}
}

// noNames are texts that are no names, names such as are.
func noNames() []string {
	return []string{"", "9", "9a", "a-b", "a b", "a'", "\x00", "ä", "a\xff", long("a", 25)}
}

func names() []string { return []string{"a", "_", "Z9", "knows", long("a", 24)} }

// mayNot are graphs that may not be: each has one fault.
func mayNot() []api.Graph {
	faults := []func(g *api.Graph){
		func(g *api.Graph) { *g = api.Graph{Last: -1} },
		func(g *api.Graph) { g.Last = api.MaxId + 1 },
		func(g *api.Graph) { g.Last = 9 },
		func(g *api.Graph) { *g = full(2049, 0) },
		func(g *api.Graph) { *g = full(1, 2049) },
		func(g *api.Graph) { g.V[0], g.V[1] = g.V[1], g.V[0] },
		func(g *api.Graph) { g.E[0], g.E[1] = g.E[1], g.E[0] },
		func(g *api.Graph) { g.V = append(g.V, g.V[3]) },
		func(g *api.Graph) { g.E[1].Id = 4 },
		func(g *api.Graph) { g.E[0].Out = 11 },
		func(g *api.Graph) { g.E[5].In = 3 },
		func(g *api.Graph) { g.V[2].Label = "9" },
		func(g *api.Graph) { g.E[3].Label = "" },
		func(g *api.Graph) { g.V[3].Props = propsNamed("a", 17) },
		func(g *api.Graph) { g.V[0].Props[1].Name = "age" },
		func(g *api.Graph) { g.E[2].Props[1].Value = value.Vertex(0) },
		func(g *api.Graph) { g.E = append([]api.Link{e(0, "a", 1, 1)}, g.E...) },
		func(g *api.Graph) { g.V = append([]api.Vertex{v(-1, "a")}, g.V...) },
	}
	var l []api.Graph
	for _, fault := range faults {
		g := sample()
		fault(&g)
		l = append(l, g)
	}
	return l
}

// tell is all that a graph has as a text, in which nil and empty lists are the same.
func tell(g api.Graph) string {
	var s strings.Builder
	fmt.Fprintf(&s, "last %d", g.Last)
	for _, x := range g.V {
		fmt.Fprintf(&s, "\nv %d %q", x.Id, x.Label)
		s.WriteString(tellProps(x.Props))
	}
	for _, x := range g.E {
		fmt.Fprintf(&s, "\ne %d %q %d %d", x.Id, x.Label, x.Out, x.In)
		s.WriteString(tellProps(x.Props))
	}
	return s.String()
}

func tellProps(l []api.Prop) string {
	var s strings.Builder
	for _, x := range l {
		fmt.Fprintf(&s, " %q: %s", x.Name, tellValue(x.Value))
	}
	return s.String()
}

// tellValue tells all fields, whatever the kind is.
func tellValue(x api.Value) string {
	s := fmt.Sprintf("(%d %d %q", x.Kind, x.N, x.S)
	for _, y := range x.L {
		s += " " + tellValue(y)
	}
	return s + ")"
}

func tellValues(l []api.Value) string {
	var s []string
	for _, x := range l {
		s = append(s, tellValue(x))
	}
	return strings.Join(s, " ")
}

func tellChange(c api.Change) string {
	return fmt.Sprintf("%d %s %q %d %d %q %s", c.Kind, tellValue(c.Elem), c.Label, c.Out, c.In, c.Name, tellValue(c.Value))
}

func tellChanges(l []api.Change) string {
	var s []string
	for _, c := range l {
		s = append(s, tellChange(c))
	}
	return strings.Join(s, "\n")
}

func wantGraph(t *testing.T, what string, got, want api.Graph) {
	t.Helper()
	if tell(got) != tell(want) {
		t.Fatalf("%s:\ngot  %s\nwant %s", what, tell(got), tell(want))
	}
}

func wantErr(t *testing.T, what string, got, want api.Errno) {
	t.Helper()
	if got != want {
		t.Fatalf("%s: got the error %d, want %d", what, got, want)
	}
}

func wantChanges(t *testing.T, what string, got, want []api.Change) {
	t.Helper()
	if tellChanges(got) != tellChanges(want) {
		t.Fatalf("%s:\ngot\n%s\nwant\n%s", what, tellChanges(got), tellChanges(want))
	}
}

// wantElems holds elements against ids, those below 0 of edges.
func wantElems(t *testing.T, what string, got []api.Value, ids ...int64) {
	t.Helper()
	var want []api.Value
	for _, id := range ids {
		want = append(want, elemOf(id))
	}
	if tellValues(got) != tellValues(want) {
		t.Fatalf("%s:\ngot  %s\nwant %s", what, tellValues(got), tellValues(want))
	}
}
