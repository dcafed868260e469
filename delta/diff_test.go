package delta

import (
	"math/rand"
	"slices"
	"strings"
	"testing"

	"ramble/api"
	"ramble/graph"
	"ramble/value"
)

// differing is the chapter's sentence of Diff, word by word.
func differing(a, b api.Graph) Changes {
	if graph.Check(a) != api.OK || graph.Check(b) != api.OK {
		return nil
	}
	var l Changes
	vertexDropped := map[int64]int{}
	for _, x := range a.V {
		if y, is := graph.V(b, x.Id); !is || y.Label != x.Label {
			vertexDropped[x.Id] = 1
		}
	}
	edgeDropped := map[int64]int{}
	for _, x := range a.E {
		y, is := graph.E(b, x.Id)
		if !is || y.Label != x.Label || y.Out != x.Out || y.In != x.In || vertexDropped[x.Out] == 1 || vertexDropped[x.In] == 1 {
			edgeDropped[x.Id] = 1
			l = append(l, dropsIt(-x.Id))
		}
	}
	for _, x := range a.V {
		if vertexDropped[x.Id] == 1 {
			l = append(l, dropsIt(x.Id))
		}
	}
	last := a.Last
	for _, x := range b.V {
		if _, is := graph.V(a, x.Id); !is || vertexDropped[x.Id] == 1 {
			l, last = append(l, addsV(x.Id, x.Label)), max(last, x.Id)
		}
	}
	for _, x := range b.E {
		if _, is := graph.E(a, x.Id); !is || edgeDropped[x.Id] == 1 {
			l, last = append(l, addsE(x.Id, x.Label, x.Out, x.In)), max(last, x.Id)
		}
	}
	for _, x := range b.V {
		l = append(l, differingProps(a, b, x.Id, vertexDropped[x.Id] == 1)...)
	}
	for _, x := range b.E {
		l = append(l, differingProps(a, b, -x.Id, edgeDropped[x.Id] == 1)...)
	}
	if b.Last > last {
		l = append(l, lastIs(b.Last))
	}
	return l
}

func differingProps(a, b api.Graph, elem int64, dropped bool) Changes {
	var l Changes
	had := graph.Props(a, elemOf(elem))
	if dropped {
		had = nil
	}
	for _, x := range had {
		if _, is := graph.Prop(b, elemOf(elem), x.Name); !is {
			l = append(l, unsets(elem, x.Name))
		}
	}
	for _, x := range graph.Props(b, elemOf(elem)) {
		same := func(y api.Prop) bool { return y.Name == x.Name && value.Same(x.Value, y.Value) }
		if !slices.ContainsFunc(had, same) {
			l = append(l, sets(elem, x.Name, x.Value))
		}
	}
	return l
}

// changed is a sample that was changed.
func changed(change func(g *api.Graph)) api.Graph {
	g := sample()
	change(&g)
	return g
}

// P13.3: the example of the chapter.
func TestDiffOfOneVertexMore(t *testing.T) {
	g := api.Graph{V: []api.Vertex{v(1, "a")}, E: []api.Link{e(3, "k", 1, 1)}, Last: 3}
	h := graph.Clone(g)
	h.V, h.Last = append(h.V, v(4, "a")), 4
	wantChanges(t, "Diff", diff(t, g, h), Changes{addsV(4, "a")})
	wantChanges(t, "Diff", diff(t, h, g), Changes{dropsIt(4)})
}

// P13.3: element by element.
func TestDiff(t *testing.T) {
	ann, since := value.Str("ann"), value.Int(1999)
	set := func(elem int64, l []api.Prop) Changes {
		var out Changes
		for _, x := range l {
			out = append(out, sets(elem, x.Name, x.Value))
		}
		return out
	}
	for _, c := range []struct {
		what   string
		change func(g *api.Graph)
		want   Changes
	}{
		{"nothing", func(g *api.Graph) {}, nil},
		{"an edge gone", func(g *api.Graph) { g.E = g.E[1:] }, Changes{dropsIt(-3)}},
		{"an edge's label", func(g *api.Graph) { g.E[0].Label = "likes" }, Changes{dropsIt(-3), addsE(3, "likes", 1, 2), sets(-3, "since", since)}},
		{"an edge's Out", func(g *api.Graph) { g.E[0].Out = 4 }, Changes{dropsIt(-3), addsE(3, "knows", 4, 2), sets(-3, "since", since)}},
		{"an edge's In", func(g *api.Graph) { g.E[0].In = 1 }, Changes{dropsIt(-3), addsE(3, "knows", 1, 1), sets(-3, "since", since)}},
		{"an edge's ends", func(g *api.Graph) { g.E[1].In, g.E[1].Out = 2, 1 }, Changes{dropsIt(-5), addsE(5, "knows", 1, 2)}},
		{"an edge's id", func(g *api.Graph) { g.E[1].Id = 4; g.V[2].Id = 5; g.E[2].In = 5; g.E[5].In = 5 }, slices.Concat(
			Changes{dropsIt(-5), dropsIt(-6), dropsIt(-10), dropsIt(4), addsV(5, "city"), addsE(4, "knows", 2, 1), addsE(6, "lives", 1, 5), addsE(10, "lives", 2, 5), sets(5, "name", value.Str("rome"))},
			set(-6, sample().E[2].Props))},
		{"a vertex without edges gone", func(g *api.Graph) { g.V = g.V[:3] }, Changes{dropsIt(9)}},
		{"a vertex gone", func(g *api.Graph) {
			g.V = slices.Delete(g.V, 2, 3)
			g.E = slices.Delete(slices.Delete(g.E, 5, 6), 2, 3)
		}, Changes{dropsIt(-6), dropsIt(-10), dropsIt(4)}},
		{"a vertex's label", func(g *api.Graph) { g.V[2].Label = "town" }, slices.Concat(
			Changes{dropsIt(-6), dropsIt(-10), dropsIt(4), addsV(4, "town"), addsE(6, "lives", 1, 4), addsE(10, "lives", 2, 4), sets(4, "name", value.Str("rome"))},
			set(-6, sample().E[2].Props))},
		{"two vertices' labels", func(g *api.Graph) { g.V[3].Label = "x"; g.V[2].Label = "x" }, slices.Concat(
			Changes{dropsIt(-6), dropsIt(-10), dropsIt(4), dropsIt(9), addsV(4, "x"), addsV(9, "x"), addsE(6, "lives", 1, 4), addsE(10, "lives", 2, 4), sets(4, "name", value.Str("rome"))},
			set(-6, sample().E[2].Props))},
		{"a property gone", func(g *api.Graph) { g.V[0].Props = g.V[0].Props[1:] }, Changes{unsets(1, "age")}},
		{"all properties gone", func(g *api.Graph) { g.V[1].Props, g.E[2].Props = nil, nil }, Changes{unsets(2, "age"), unsets(2, "friends"), unsets(2, "name"), unsets(-6, "age"), unsets(-6, "what")}},
		{"a property new", func(g *api.Graph) { g.V[0].Props = slices.Insert(g.V[0].Props, 1, p("b", ann)) }, Changes{sets(1, "b", ann)}},
		{"a property otherwise", func(g *api.Graph) { g.V[0].Props[0].Value = ann }, Changes{sets(1, "age", ann)}},
		{"deep within otherwise", func(g *api.Graph) { g.V[1].Props[1].Value = list(value.Vertex(1), list(value.Edge(6))) }, Changes{sets(2, "friends", list(value.Vertex(1), list(value.Edge(6))))}},
		{"a property with another name", func(g *api.Graph) { g.V[0].Props[0].Name = "Age" }, Changes{unsets(1, "age"), sets(1, "Age", value.Int(30))}},
		{"properties of several, in their order", func(g *api.Graph) {
			g.V[0].Props = []api.Prop{p("B", ann), p("name", since)}
			g.V[3].Props = []api.Prop{p("a", ann)}
			g.E[0].Props = []api.Prop{p("a", ann), p("b", since)}
			g.E[5].Props = []api.Prop{p("a", ann)}
		}, Changes{unsets(1, "age"), sets(1, "B", ann), sets(1, "name", since), sets(9, "a", ann), unsets(-3, "since"), sets(-3, "a", ann), sets(-3, "b", since), sets(-10, "a", ann)}},
		{"Last one more", func(g *api.Graph) { g.Last = 13 }, Changes{lastIs(13)}},
		{"the greatest Last", func(g *api.Graph) { g.Last = api.MaxId }, Changes{lastIs(api.MaxId)}},
		{"Last less", func(g *api.Graph) { g.Last = 10 }, nil},
		{"Last at what is added", func(g *api.Graph) { g.V, g.Last = append(g.V, v(13, "a")), 13 }, Changes{addsV(13, "a")}},
		{"Last at an edge that is added", func(g *api.Graph) { g.E, g.Last = append(g.E, e(13, "a", 9, 9)), 13 }, Changes{addsE(13, "a", 9, 9)}},
		{"Last above what is added", func(g *api.Graph) {
			g.V, g.E, g.Last = append(g.V, v(13, "a")), append(g.E, e(14, "a", 9, 13)), 15
		}, Changes{addsV(13, "a"), addsE(14, "a", 9, 13), lastIs(15)}},
		{"below Last", func(g *api.Graph) { g.V = append(g.V, v(11, "a")) }, Changes{addsV(11, "a")}},
		{"an edge in the place of a vertex", func(g *api.Graph) { g.V, g.E = g.V[:3], slices.Insert(g.E, 5, e(9, "k", 1, 1)) }, Changes{dropsIt(9), addsE(9, "k", 1, 1)}},
		{"a vertex in the place of an edge", func(g *api.Graph) { g.V, g.E = slices.Insert(g.V, 2, v(3, "knows")), g.E[1:] }, Changes{dropsIt(-3), addsV(3, "knows")}},
	} {
		g := changed(c.change)
		wantChanges(t, c.what, diff(t, sample(), g), c.want)
		wantChanges(t, c.what+", and back", diff(t, g, sample()), differing(g, sample()))
	}
}

// P13.3: to and from the empty graph.
func TestDiffOfTheEmptyGraph(t *testing.T) {
	a := api.Graph{V: []api.Vertex{v(1, "a", p("x", value.Int(1)), p("y", value.Int(2))), v(3, "b")}, E: []api.Link{e(2, "k", 1, 3, p("z", value.Int(3)))}, Last: 4}
	wantChanges(t, "from", diff(t, api.Graph{}, a), Changes{
		addsV(1, "a"), addsV(3, "b"), addsE(2, "k", 1, 3), sets(1, "x", value.Int(1)), sets(1, "y", value.Int(2)), sets(-2, "z", value.Int(3)), lastIs(4),
	})
	wantChanges(t, "to", diff(t, a, api.Graph{}), Changes{dropsIt(-2), dropsIt(1), dropsIt(3)})
	wantChanges(t, "Last alone", diff(t, api.Graph{}, api.Graph{Last: 1}), Changes{lastIs(1)})
	wantChanges(t, "Last alone, back", diff(t, api.Graph{Last: 1}, api.Graph{}), nil)
}

// P13.3: of graphs that may not be nothing, on either side.
func TestDiffOfGraphsThatMayNotBe(t *testing.T) {
	for _, g := range mayNot() {
		for _, h := range []api.Graph{{}, sample(), {Last: 100}, g} {
			if l, m := diff(t, g, h), diff(t, h, g); l != nil || m != nil {
				t.Fatalf("Diff of what may not be: %v, %v", l, m)
			}
		}
	}
}

// P13.3: any two graphs, against the sentence.
func TestDiffOfAny(t *testing.T) {
	r := rand.New(rand.NewSource(4))
	all := may()
	for range 2000 {
		a := all[r.Intn(len(all))]
		b := all[r.Intn(len(all))]
		if r.Intn(2) == 0 {
			b = near(r, a, 1+r.Intn(4))
		}
		wantChanges(t, "Diff of "+tell(a)+"\nand "+tell(b), diff(t, a, b), differing(a, b))
	}
}

// laden is a graph of that many vertices and edges, each of which has as many properties as may be, with that text.
func laden(vertices, edges int, label, text string) api.Graph {
	g := full(vertices, edges)
	for i := range g.V {
		g.V[i].Label, g.V[i].Props = label, propsNamed(label, api.MaxProps)
		g.V[i].Props[7].Value = value.Str(text)
	}
	for i := range g.E {
		g.E[i].Props = propsNamed(label, api.MaxProps)
		g.E[i].Props[0].Value = value.Str(text)
	}
	return g
}

// P13.3, P13.5: graphs as great as they may be.
func TestDiffOfTheGreatest(t *testing.T) {
	text := strings.Repeat("x", api.MaxText)
	a, b, c := laden(2048, 2048, "a", text), laden(2048, 2048, "a", text[1:]), laden(2048, 2048, "b", text)
	for _, pair := range []struct {
		from, to api.Graph
		many     int
	}{
		{api.Graph{}, a, 4096 * 17}, {a, a, 0}, {a, b, 4096}, {a, c, 3*4096 + 4096*16 - 4096}, {a, api.Graph{}, 4096},
	} {
		l := Diff(pair.from, pair.to)
		if len(l) != pair.many {
			t.Errorf("%d changes, want %d", len(l), pair.many)
		}
		g, many, err := Apply(pair.from, l...)
		pair.to.Last = 4096
		if many != len(l) || err != api.OK || !graph.Same(g, pair.to) {
			t.Errorf("%d of %d done, %d", many, len(l), err)
		}
	}
}
