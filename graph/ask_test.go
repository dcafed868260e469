package graph

import (
	"fmt"
	"slices"
	"testing"

	"ramble/api"
	"ramble/value"
)

func wantLinks(t *testing.T, what string, l []api.Link, ids ...int64) {
	t.Helper()
	var got []int64
	for _, x := range l {
		got = append(got, x.Id)
	}
	if !slices.Equal(got, ids) {
		t.Fatalf("%s: the edges %v, want %v", what, got, ids)
	}
}

func wantElems(t *testing.T, what string, l []api.Value, kind int, ids ...int64) {
	t.Helper()
	var want []api.Value
	for _, id := range ids {
		want = append(want, api.Value{Kind: kind, N: id})
	}
	if !slices.EqualFunc(l, want, value.Same) {
		t.Fatalf("%s: %v, want %v", what, l, want)
	}
}

// double is a graph that may not be: ids stand twice, in any order, also one of a vertex and an edge; properties stand twice.
func double() api.Graph {
	one, two := value.Int(1), value.Int(2)
	return api.Graph{
		V: []api.Vertex{v(5, "b", p("x", one), p("a", two), p("x", two)), v(0, ""), v(5, "a", p("a", one)), v(-1, "9"), v(3, "a", p("", one))},
		E: []api.Link{e(7, "k", 5, 3, p("x", two), p("x", one)), e(5, "k", 3, 5, p("x", one)), e(7, "l", 5, 5, p("q", one)), e(-2, "", 77, 5), e(2, "k", 5, 3)},
	}
}

// P10.3: the first one of an id, and that alone.
func TestFirstOfAnId(t *testing.T) {
	g := double()
	if x, is := vertex(t, g, 5); !is || tellVertex(x) != tellVertex(g.V[0]) {
		t.Error("V(5)", x, is)
	}
	if x, is := vertex(t, g, 0); !is || tellVertex(x) != tellVertex(g.V[1]) {
		t.Error("V(0)", x, is)
	}
	if x, is := link(t, g, 7); !is || tellLink(x) != tellLink(g.E[0]) {
		t.Error("E(7)", x, is)
	}
	if x, is := link(t, g, 5); !is || tellLink(x) != tellLink(g.E[1]) {
		t.Error("E(5)", x, is)
	}
	if s, is := label(t, g, value.Vertex(5)); s != "b" || !is {
		t.Error("Label", s, is)
	}
	if s, is := label(t, g, value.Vertex(0)); s != "" || !is {
		t.Error("Label of an empty one", s, is)
	}
	if s, is := label(t, g, value.Edge(7)); s != "k" || !is {
		t.Error("Label", s, is)
	}
	if l := props(t, g, value.Vertex(5)); tellProps(l) != tellProps(g.V[0].Props) {
		t.Error("Props", l)
	}
	if x, is := prop(t, g, value.Vertex(5), "x"); !is || x.N != 1 {
		t.Error("Prop", x, is)
	}
	if x, is := prop(t, g, value.Edge(7), "x"); !is || x.N != 2 {
		t.Error("Prop", x, is)
	}
	if x, is := prop(t, g, value.Edge(7), "q"); is || x.Kind != 0 {
		t.Error("Prop of the second edge of an id", x, is)
	}
	if x, is := prop(t, g, value.Vertex(3), ""); !is || x.N != 1 {
		t.Error("Prop of a name that is none", x, is)
	}
}

// P10.3: V, E, Label, Props and Prop of graphs of all sorts.
func TestAskOfAny(t *testing.T) {
	for _, g := range append(anyGraphs(), double()) {
		for _, id := range idsIn(g) {
			i := slices.IndexFunc(g.V, func(x api.Vertex) bool { return x.Id == id })
			want := api.Vertex{}
			if i >= 0 {
				want = g.V[i]
			}
			if x, is := vertex(t, g, id); is != (i >= 0) || tellVertex(x) != tellVertex(want) {
				t.Fatalf("V(%d): %v, %v of %s", id, x, is, tell(g))
			}
			wantAsked(t, g, value.Vertex(id), i >= 0, want.Label, want.Props)
			i = slices.IndexFunc(g.E, func(x api.Link) bool { return x.Id == id })
			wantE := api.Link{}
			if i >= 0 {
				wantE = g.E[i]
			}
			if x, is := link(t, g, id); is != (i >= 0) || tellLink(x) != tellLink(wantE) {
				t.Fatalf("E(%d): %v, %v of %s", id, x, is, tell(g))
			}
			wantAsked(t, g, value.Edge(id), i >= 0, wantE.Label, wantE.Props)
		}
		for _, elem := range append(noElems(), withFields()...) {
			wantAsked(t, g, elem, false, "", nil)
		}
	}
}

func wantAsked(t *testing.T, g api.Graph, elem api.Value, there bool, name string, l []api.Prop) {
	t.Helper()
	what := tellValue(elem) + " of " + tell(g)
	if s, is := label(t, g, elem); s != name || is != there {
		t.Fatalf("Label: %q, %v; %s", s, is, what)
	}
	if got := props(t, g, elem); tellProps(got) != tellProps(l) {
		t.Fatalf("Props: %v; %s", got, what)
	}
	names := []string{"", "a", "age", "zz", "x"}
	for _, x := range l {
		names = append(names, x.Name)
	}
	for _, name := range names {
		i := slices.IndexFunc(l, func(x api.Prop) bool { return x.Name == name })
		want := api.Value{}
		if i >= 0 {
			want = l[i].Value
		}
		if x, is := prop(t, g, elem, name); is != (i >= 0) || tellValue(x) != tellValue(want) {
			t.Fatalf("Prop %q: %v, %v; %s", name, x, is, what)
		}
	}
}

// P10.3: Out and In, with no labels, one, several, the same twice, and such as no edge has.
func TestOutAndIn(t *testing.T) {
	g := sample()
	wantLinks(t, "Out(1)", outOf(t, g, 1), 3, 6, 7)
	wantLinks(t, "Out(1, knows)", outOf(t, g, 1, "knows"), 3, 7)
	wantLinks(t, "Out(1, lives, knows)", outOf(t, g, 1, "lives", "knows"), 3, 6, 7)
	wantLinks(t, "Out(1, lives, lives, likes)", outOf(t, g, 1, "lives", "lives", "likes"), 6)
	wantLinks(t, "Out(1, likes)", outOf(t, g, 1, "likes"))
	wantLinks(t, "Out(1, '')", outOf(t, g, 1, ""))
	wantLinks(t, "Out(1, '', know, knowss, Lives)", outOf(t, g, 1, "", "know", "knowss", "Lives"))
	wantLinks(t, "Out(2)", outOf(t, g, 2), 5, 8, 10)
	wantLinks(t, "Out(2, likes)", outOf(t, g, 2, "likes"), 8)
	wantLinks(t, "Out(4)", outOf(t, g, 4))
	wantLinks(t, "In(1)", into(t, g, 1), 5)
	wantLinks(t, "In(2)", into(t, g, 2), 3, 7, 8)
	wantLinks(t, "In(2, likes, knows)", into(t, g, 2, "likes", "knows"), 3, 7, 8)
	wantLinks(t, "In(2, likes)", into(t, g, 2, "likes"), 8)
	wantLinks(t, "In(4)", into(t, g, 4), 6, 10)
	wantLinks(t, "In(4, knows)", into(t, g, 4, "knows"))
	for _, id := range []int64{9, 3, 0, -1, 77, api.MaxId} {
		wantLinks(t, "Out of what has none", outOf(t, g, id))
		wantLinks(t, "In of what has none", into(t, g, id))
	}
	wantLinks(t, "Out of no graph", outOf(t, api.Graph{}, 1))
	g = double()
	wantLinks(t, "Out(5)", outOf(t, g, 5), 7, 7, 2)
	wantLinks(t, "Out(5, k)", outOf(t, g, 5, "k"), 7, 2)
	wantLinks(t, "Out(77)", outOf(t, g, 77), -2)
	wantLinks(t, "In(5)", into(t, g, 5), 5, 7, -2)
	wantLinks(t, "In(5, '')", into(t, g, 5, ""), -2)
}

// P10.3: All, by kinds and labels.
func TestAll(t *testing.T) {
	g := sample()
	wantElems(t, "vertices", allOf(t, g, api.VVertex), api.VVertex, 1, 2, 4, 9)
	wantElems(t, "edges", allOf(t, g, api.VEdge), api.VEdge, 3, 5, 6, 7, 8, 10)
	wantElems(t, "persons", allOf(t, g, api.VVertex, "person"), api.VVertex, 1, 2, 9)
	wantElems(t, "persons, twice", allOf(t, g, api.VVertex, "person", "x", "person"), api.VVertex, 1, 2, 9)
	wantElems(t, "cities and persons", allOf(t, g, api.VVertex, "city", "person"), api.VVertex, 1, 2, 4, 9)
	wantElems(t, "vertices that know", allOf(t, g, api.VVertex, "knows"), api.VVertex)
	wantElems(t, "lives and likes", allOf(t, g, api.VEdge, "likes", "lives"), api.VEdge, 6, 8, 10)
	wantElems(t, "no label", allOf(t, g, api.VEdge, ""), api.VEdge)
	g = double()
	wantElems(t, "vertices", allOf(t, g, api.VVertex), api.VVertex, 5, 0, 5, -1, 3)
	wantElems(t, "with an a", allOf(t, g, api.VVertex, "a"), api.VVertex, 5, 3)
	wantElems(t, "no label", allOf(t, g, api.VVertex, ""), api.VVertex, 0)
	wantElems(t, "edges", allOf(t, g, api.VEdge), api.VEdge, 7, 5, 7, -2, 2)
	wantElems(t, "with a k or l", allOf(t, g, api.VEdge, "l", "k"), api.VEdge, 7, 5, 7, 2)
	for _, x := range noElems() {
		wantElems(t, "another kind", allOf(t, g, x.Kind), x.Kind)
		wantElems(t, "another kind", allOf(t, g, x.Kind, "a", "k", ""), x.Kind)
		wantElems(t, "another kind", found(t, g, x.Kind, "x", value.Int(1)), x.Kind)
	}
}

// P10.3: Find, by the value of the first property of a name.
func TestFind(t *testing.T) {
	g, rome := sample(), value.Str("rome")
	wantElems(t, "rome", found(t, g, api.VVertex, "name", rome), api.VVertex, 4)
	wantElems(t, "edges in rome", found(t, g, api.VEdge, "name", rome), api.VEdge)
	wantElems(t, "rome by another name", found(t, g, api.VVertex, "nam", rome), api.VVertex)
	wantElems(t, "30", found(t, g, api.VVertex, "age", value.Int(30)), api.VVertex, 1)
	wantElems(t, "30", found(t, g, api.VEdge, "age", value.Int(30)), api.VEdge, 6)
	wantElems(t, "'30'", found(t, g, api.VVertex, "age", value.Str("30")), api.VVertex)
	wantElems(t, "a list", found(t, g, api.VVertex, "friends", list(value.Vertex(1), list(value.Edge(5)))), api.VVertex, 2)
	wantElems(t, "its beginning", found(t, g, api.VVertex, "friends", list(value.Vertex(1))), api.VVertex)
	wantElems(t, "nothing", found(t, g, api.VVertex, "age", api.Value{}), api.VVertex)
	wantElems(t, "nothing by no name", found(t, g, api.VVertex, "", api.Value{}), api.VVertex)
	g.V[3].Props = g.V[0].Props
	wantElems(t, "30, twice", found(t, g, api.VVertex, "age", value.Int(30)), api.VVertex, 1, 9)
	g = double()
	one, two := value.Int(1), value.Int(2)
	wantElems(t, "the first x of vertices", found(t, g, api.VVertex, "x", one), api.VVertex, 5)
	wantElems(t, "the second x of vertices", found(t, g, api.VVertex, "x", two), api.VVertex)
	wantElems(t, "the a of the second 5", found(t, g, api.VVertex, "a", one), api.VVertex, 5)
	wantElems(t, "x 1 of edges", found(t, g, api.VEdge, "x", one), api.VEdge, 5)
	wantElems(t, "x 2 of edges", found(t, g, api.VEdge, "x", two), api.VEdge, 7)
	wantElems(t, "no name", found(t, g, api.VVertex, "", one), api.VVertex, 3)
	g.V[1].Props = []api.Prop{p("a", api.Value{Kind: 9, N: 1, S: "x", L: []api.Value{{}}})}
	wantElems(t, "what may not be", found(t, g, api.VVertex, "a", api.Value{Kind: 9, N: 1, S: "x", L: []api.Value{{}}}), api.VVertex, 0)
	wantElems(t, "what may not be", found(t, g, api.VVertex, "a", api.Value{Kind: 9, N: 1, S: "x"}), api.VVertex)
}

// P10.3: what the iterators tell of graphs of all sorts.
func TestTellOfAny(t *testing.T) {
	some := [][]string{nil, {"a"}, {"a", "knows"}, {"b", "", "b"}, {"zz"}}
	for _, g := range append(anyGraphs(), double()) {
		for _, labels := range some {
			fits := func(s string) bool { return len(labels) == 0 || slices.Contains(labels, s) }
			for _, id := range idsIn(g) {
				var outs, ins []api.Link
				for _, x := range g.E {
					if x.Out == id && fits(x.Label) {
						outs = append(outs, x)
					}
					if x.In == id && fits(x.Label) {
						ins = append(ins, x)
					}
				}
				wantTold(t, "Out", outOf(t, g, id, labels...), outs, tellLink)
				wantTold(t, "In", into(t, g, id, labels...), ins, tellLink)
			}
			for kind := -1; kind <= 8; kind++ {
				var l []api.Value
				for i := 0; kind == api.VVertex && i < len(g.V); i++ {
					if fits(g.V[i].Label) {
						l = append(l, value.Vertex(g.V[i].Id))
					}
				}
				for i := 0; kind == api.VEdge && i < len(g.E); i++ {
					if fits(g.E[i].Label) {
						l = append(l, value.Edge(g.E[i].Id))
					}
				}
				wantTold(t, "All", allOf(t, g, kind, labels...), l, tellValue)
			}
		}
		findOfAny(t, g)
	}
}

func findOfAny(t *testing.T, g api.Graph) {
	t.Helper()
	fits := func(l []api.Prop, name string, x api.Value) bool {
		i := slices.IndexFunc(l, func(p api.Prop) bool { return p.Name == name })
		return i >= 0 && tellValue(l[i].Value) == tellValue(x)
	}
	for _, name := range []string{"a", "b", "", "age"} {
		for _, x := range []api.Value{value.Int(0), value.Int(1), value.Str("x"), value.Bool(true), list(), {}, list(value.Int(1), list(value.Vertex(1)))} {
			var vertices, edges []api.Value
			for _, y := range g.V {
				if fits(y.Props, name, x) {
					vertices = append(vertices, value.Vertex(y.Id))
				}
			}
			for _, y := range g.E {
				if fits(y.Props, name, x) {
					edges = append(edges, value.Edge(y.Id))
				}
			}
			wantTold(t, "Find", found(t, g, api.VVertex, name, x), vertices, tellValue)
			wantTold(t, "Find", found(t, g, api.VEdge, name, x), edges, tellValue)
			wantTold(t, "Find", found(t, g, api.VList, name, x), nil, tellValue)
		}
	}
}

func wantTold[T any](t *testing.T, what string, got, want []T, tell func(T) string) {
	t.Helper()
	if fmt.Sprint(tellAll(got, tell)) != fmt.Sprint(tellAll(want, tell)) {
		t.Fatalf("%s tells %v, want %v", what, got, want)
	}
}

func tellAll[T any](l []T, tell func(T) string) []string {
	var out []string
	for _, x := range l {
		out = append(out, tell(x))
	}
	return out
}

// R3: an iterator tells what it was made of, also if that is changed behind the call, or while it is gone through; and what it told may be changed.
func TestToldIsNotKept(t *testing.T) {
	g, labels, x := sample(), []string{"lives", "person"}, list(value.Str("a"))
	outs, ins := Out(g, 1, labels...), In(g, 4, labels...)
	vertices, edges := All(g, api.VVertex, labels...), All(g, api.VEdge, labels...)
	what := Find(g, api.VEdge, "what", x)
	spoil(&g)
	labels[0], labels[1], x.L[0] = "knows", "city", value.Int(5)
	for range 2 {
		for _, seq := range []func(func(api.Link) bool){outs, ins} {
			for l := range seq {
				if l.Label != "lives" || l.In != 4 || l.Id == 6 && tellProps(l.Props) != tellProps(sample().E[2].Props) {
					t.Fatalf("%v", l)
				}
				for i := range l.Props {
					l.Props[i].Name = "spoilt"
					for j := range l.Props[i].Value.L {
						l.Props[i].Value.L[j] = value.Int(77)
					}
				}
			}
		}
		wantElems(t, "vertices", slices.Collect(vertices), api.VVertex, 1, 2, 9)
		wantElems(t, "edges", slices.Collect(edges), api.VEdge, 6, 10)
		wantElems(t, "Find", slices.Collect(what), api.VEdge, 6)
		wantLinks(t, "Out", slices.Collect(outs), 6)
		wantLinks(t, "In", slices.Collect(ins), 6, 10)
	}
}

// spoil overwrites all lists of g, so that whoever shares them is seen.
func spoil(g *api.Graph) {
	for i := range g.V {
		spoilProps(g.V[i].Props)
		g.V[i] = v(77, "spoilt")
	}
	for i := range g.E {
		spoilProps(g.E[i].Props)
		g.E[i] = e(77, "spoilt", 1, 4)
	}
}

func spoilProps(l []api.Prop) {
	for i := range l {
		for j := range l[i].Value.L {
			l[i].Value.L[j] = value.Int(77)
		}
		l[i] = p("spoilt", value.Int(77))
	}
}

// P10.2, P10.3: a value with a field that an element does not have is none, whatever its Kind and id are.
func TestElementWithOtherFields(t *testing.T) {
	for _, elem := range []api.Value{
		{Kind: api.VVertex, N: 1, S: "x"}, {Kind: api.VVertex, N: 1, L: []api.Value{{}}},
		{Kind: api.VEdge, N: 3, S: "x"}, {Kind: api.VEdge, N: 3, L: []api.Value{value.Int(1)}},
	} {
		wantAsked(t, sample(), elem, false, "", nil)
		g, e := set(t, sample(), elem, "a", value.Int(1))
		wantErr(t, "Set", e, api.ErrElem)
		wantGraph(t, "Set", g, sample())
		g, is, e := unset(t, sample(), elem, "age")
		wantErr(t, "Unset", e, api.ErrElem)
		wantGraph(t, "Unset", g, sample())
		if is {
			t.Error("Unset found the property of what is none")
		}
		g, e = drop(t, sample(), elem)
		wantErr(t, "Drop", e, api.ErrElem)
		wantGraph(t, "Drop", g, sample())
	}
}

// P10.2, P10.3, R6: an empty list is no field.
func TestElementWithAnEmptyList(t *testing.T) {
	for _, plain := range []api.Value{value.Vertex(1), value.Edge(3)} {
		elem := plain
		elem.L = []api.Value{}
		name, _ := Label(sample(), plain)
		wantAsked(t, sample(), elem, true, name, Props(sample(), plain))
		g, e := set(t, sample(), elem, "a", value.Int(1))
		wantErr(t, "Set", e, api.OK)
		wantWithAndWithout(t, g, elem, plain)
	}
}

// wantWithAndWithout holds g, in which elem has the property a, against the sample in which plain has.
func wantWithAndWithout(t *testing.T, g api.Graph, elem, plain api.Value) {
	t.Helper()
	want, _ := Set(sample(), plain, "a", value.Int(1))
	wantGraph(t, "Set", g, want)
	h, is, e := unset(t, g, elem, "a")
	wantErr(t, "Unset", e, api.OK)
	wantGraph(t, "Unset", h, sample())
	if !is {
		t.Error("Unset did not find the property")
	}
	h, e = drop(t, g, elem)
	wantErr(t, "Drop", e, api.OK)
	want, _ = Drop(sample(), plain)
	wantGraph(t, "Drop", h, want)
}
