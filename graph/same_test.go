package graph

import (
	"testing"

	"ramble/api"
	"ramble/value"
)

// P10.3, R6: nil and empty lists are the same.
func TestSameOfEmpty(t *testing.T) {
	a, b := api.Graph{Last: 3}, api.Graph{V: []api.Vertex{}, E: []api.Link{}, Last: 3}
	if !same(t, a, b) || !same(t, b, a) || !same(t, a, a) || !same(t, b, b) {
		t.Error("nil and empty lists of a graph are not the same")
	}
	a = api.Graph{V: []api.Vertex{v(1, "a")}, E: []api.Link{e(2, "a", 1, 1, p("a", api.Value{Kind: api.VList}))}}
	b = api.Graph{V: []api.Vertex{v(1, "a", []api.Prop{}...)}, E: []api.Link{e(2, "a", 1, 1, p("a", list([]api.Value{}...)))}}
	if !same(t, a, b) || !same(t, b, a) {
		t.Error("nil and empty lists of elements are not the same")
	}
	a.E[0].Props, b.E[0].Props = nil, []api.Prop{}
	if !same(t, a, b) || !same(t, b, a) {
		t.Error("nil and empty properties are not the same")
	}
}

// P10.3: graphs that part in one field are not the same.
func TestSameFieldByField(t *testing.T) {
	for i, change := range []func(g *api.Graph){
		func(g *api.Graph) { g.Last++ },
		func(g *api.Graph) { g.Last = -g.Last },
		func(g *api.Graph) { g.V = nil },
		func(g *api.Graph) { g.V = g.V[:3] },
		func(g *api.Graph) { g.V = g.V[1:] },
		func(g *api.Graph) { g.V = append(g.V, api.Vertex{}) },
		func(g *api.Graph) { g.V[0], g.V[1] = g.V[1], g.V[0] },
		func(g *api.Graph) { g.V[3].Id++ },
		func(g *api.Graph) { g.V[3].Label = "Person" },
		func(g *api.Graph) { g.V[0].Label = "" },
		func(g *api.Graph) { g.V[3].Props = []api.Prop{{}} },
		func(g *api.Graph) { g.V[0].Props = nil },
		func(g *api.Graph) { g.V[0].Props = g.V[0].Props[:1] },
		func(g *api.Graph) { l := g.V[0].Props; l[0], l[1] = l[1], l[0] },
		func(g *api.Graph) { g.V[0].Props[1].Name = "nam" },
		func(g *api.Graph) { g.V[0].Props[1].Value.S = "Ann" },
		func(g *api.Graph) { g.V[0].Props[0].Value.N = 31 },
		func(g *api.Graph) { g.V[0].Props[0].Value.S = "x" },
		func(g *api.Graph) { g.V[0].Props[0].Value.Kind = api.VVertex },
		func(g *api.Graph) { g.V[1].Props[1].Value.L = nil },
		func(g *api.Graph) { g.V[1].Props[1].Value.L[1].L[0].N = 6 },
		func(g *api.Graph) { g.E = nil },
		func(g *api.Graph) { g.E = g.E[:5] },
		func(g *api.Graph) { g.E = append(g.E, api.Link{}) },
		func(g *api.Graph) { g.E[4], g.E[5] = g.E[5], g.E[4] },
		func(g *api.Graph) { g.E[5].Id++ },
		func(g *api.Graph) { g.E[5].Label = "likes" },
		func(g *api.Graph) { g.E[5].Out = 1 },
		func(g *api.Graph) { g.E[5].In = 1 },
		func(g *api.Graph) { g.E[1].Out, g.E[1].In = g.E[1].In, g.E[1].Out },
		func(g *api.Graph) { g.E[0].Props = nil },
		func(g *api.Graph) { g.E[1].Props = []api.Prop{{}} },
		func(g *api.Graph) { g.E[0].Props[0].Name = "Since" },
		func(g *api.Graph) { g.E[0].Props[0].Value = value.Int(-1999) },
		func(g *api.Graph) { g.E[2].Props[1].Value.L[0].S = "" },
	} {
		g := sample()
		if !same(t, g, sample()) {
			t.Fatal("a graph is not the same as itself")
		}
		change(&g)
		if same(t, g, sample()) || same(t, sample(), g) {
			t.Errorf("%d: %s is the same as the sample", i, tell(g))
		}
		if h := clone(t, g); !same(t, g, h) || tell(g) != tell(h) {
			t.Errorf("%d: %s is not the same as its clone", i, tell(g))
		}
	}
}

// P10.3: graphs of all sorts, each against some others, and as clones.
func TestSameAndCloneOfAny(t *testing.T) {
	l := append(anyGraphs(), mayNot()...)
	for i, a := range l {
		for j := i; j < min(i+20, len(l)); j++ {
			if is := tell(a) == tell(l[j]); Same(a, l[j]) != is || Same(l[j], a) != is {
				t.Fatalf("Same of\n%s\n%s: %v", tell(a), tell(l[j]), !is)
			}
		}
		wantGraph(t, "Clone", clone(t, a), a)
	}
	wantGraph(t, "Clone", clone(t, full(2048, 2048)), full(2048, 2048))
}

// P10.3, R3: what is done to a clone is not done to the graph, nor the other way round.
func TestCloneIsApart(t *testing.T) {
	g := sample()
	h := clone(t, g)
	spoil(&h)
	wantGraph(t, "behind a change of its clone", g, sample())
	h = clone(t, g)
	spoil(&g)
	wantGraph(t, "a clone behind a change of its graph", h, sample())
}
