package graph

import (
	"math/rand"
	"testing"

	"ramble/api"
	"ramble/value"
)

// P10.1: graphs that may be, up to the limits.
func TestCheckOfWhatMayBe(t *testing.T) {
	for _, g := range append(may(), full(2048, 0), full(2048, 2048), full(1, 2048), full(2047, 2047)) {
		if !mayBe(g) {
			t.Fatalf("no graph that may be: %s", tell(g))
		}
		if e := check(t, g); e != api.OK {
			t.Fatalf("Check: %d of %s", e, tell(g))
		}
	}
}

// P10.1: each thing by which a graph may not be, alone.
func TestCheckOfFaults(t *testing.T) {
	for _, f := range faults() {
		g := sample()
		f.make(&g)
		if mayBe(g) {
			t.Fatalf("%s is no fault", f.what)
		}
		if e := check(t, g); e != api.ErrGraph {
			t.Errorf("Check of a graph with %s: %d", f.what, e)
		}
	}
}

// P10.1: Last from 0 to MaxId.
func TestCheckOfLast(t *testing.T) {
	for last, want := range map[int64]api.Errno{-1: api.ErrGraph, 0: api.OK, 1: api.OK, api.MaxId: api.OK, api.MaxId + 1: api.ErrGraph} {
		wantErr(t, "Check of an empty graph", check(t, api.Graph{Last: last}), want)
	}
}

// P10.1: the ids that an edge may have beside those of vertices, and the vertices between which it may go.
func TestCheckOfEdgesAmongVertices(t *testing.T) {
	g := api.Graph{V: []api.Vertex{v(2, "a"), v(4, "a"), v(6, "a")}, Last: 7}
	for id := int64(0); id <= 8; id++ {
		for end := int64(0); end <= 8; end++ {
			isVertex := func(id int64) bool { return id == 2 || id == 4 || id == 6 }
			want := api.ErrGraph
			if id >= 1 && id <= 7 && !isVertex(id) && isVertex(end) {
				want = api.OK
			}
			g.E = []api.Link{e(id, "a", end, 4)}
			wantErr(t, tell(g), check(t, g), want)
			g.E = []api.Link{e(id, "a", 4, end)}
			wantErr(t, tell(g), check(t, g), want)
		}
	}
}

// P10.1: graphs of anything.
func TestCheckOfAny(t *testing.T) {
	r := rand.New(rand.NewSource(1))
	may := 0
	for range 3000 {
		g := wild(r)
		if r.Intn(2) == 0 {
			g = nearly(r)
		}
		want := api.ErrGraph
		if mayBe(g) {
			want = api.OK
			may++
		}
		if e := Check(g); e != want {
			t.Fatalf("Check: %d, want %d of %s", e, want, tell(g))
		}
	}
	if may < 100 || may > 2900 {
		t.Errorf("%d of 3000 graphs may be", may)
	}
}

// nearly is a graph that may be with some numbers in it changed, or not.
func nearly(r *rand.Rand) api.Graph {
	g := someGraph(r, 1+r.Intn(4), 1+r.Intn(4))
	for range r.Intn(3) {
		x, y := r.Intn(len(g.V)), r.Intn(len(g.E))
		by := int64(r.Intn(3) - 1)
		switch r.Intn(5) {
		case 0:
			g.V[x].Id += by
		case 1:
			g.E[y].Id += by
		case 2:
			g.E[y].Out += by
		case 3:
			g.E[y].In += by
		case 4:
			g.Last += by
		}
	}
	return g
}

// P10.1: all calls that make a graph of one that may not be answer it as it is, and ErrGraph, whatever else is amiss.
func TestChangeOfWhatMayNotBe(t *testing.T) {
	for _, g := range mayNot() {
		for _, name := range []string{"a", ""} {
			h, id, e := addV(t, g, name)
			wantRefused(t, "AddV", h, g, id == 0, e)
			for _, end := range []int64{1, 77} {
				h, id, e = addE(t, g, name, end, 1)
				wantRefused(t, "AddE", h, g, id == 0, e)
			}
			for _, elem := range []api.Value{value.Vertex(1), value.Edge(3), value.Vertex(77), value.Int(1)} {
				for _, x := range []api.Value{value.Int(1), {}} {
					h, e = set(t, g, elem, name, x)
					wantRefused(t, "Set", h, g, true, e)
				}
				h, is, e := unset(t, g, elem, name)
				wantRefused(t, "Unset", h, g, !is, e)
				h, is, e = unset(t, g, elem, "age")
				wantRefused(t, "Unset", h, g, !is, e)
				h, e = drop(t, g, elem)
				wantRefused(t, "Drop", h, g, true, e)
			}
		}
	}
}

func wantRefused(t *testing.T, what string, got, g api.Graph, zero bool, e api.Errno) {
	t.Helper()
	wantErr(t, what+" of a graph that may not be", e, api.ErrGraph)
	wantGraph(t, what, got, g)
	if !zero {
		t.Fatalf("%s of a graph that may not be: a number, or a truth, that is not zero", what)
	}
}
