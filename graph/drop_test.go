package graph

import (
	"testing"

	"ramble/api"
	"ramble/value"
)

// left are the ids of the vertices and of the edges of g.
func left(g api.Graph) ([]int64, []int64) {
	var vertices, edges []int64
	for _, x := range g.V {
		vertices = append(vertices, x.Id)
	}
	for _, x := range g.E {
		edges = append(edges, x.Id)
	}
	return vertices, edges
}

// picked is g with those of its vertices and edges alone.
func picked(g api.Graph, vertices, edges []int64) api.Graph {
	h := api.Graph{Last: g.Last}
	for _, id := range vertices {
		x, _ := V(g, id)
		h.V = append(h.V, x)
	}
	for _, id := range edges {
		x, _ := E(g, id)
		h.E = append(h.E, x)
	}
	return h
}

// P10.2: Drop of a vertex with edges out of it, into it, from itself to itself, without any, and of edges.
func TestDrop(t *testing.T) {
	for _, x := range []struct {
		elem            api.Value
		vertices, edges []int64
	}{
		{value.Vertex(1), []int64{2, 4, 9}, []int64{8, 10}},
		{value.Vertex(2), []int64{1, 4, 9}, []int64{6}},
		{value.Vertex(4), []int64{1, 2, 9}, []int64{3, 5, 7, 8}},
		{value.Vertex(9), []int64{1, 2, 4}, []int64{3, 5, 6, 7, 8, 10}},
		{value.Edge(3), []int64{1, 2, 4, 9}, []int64{5, 6, 7, 8, 10}},
		{value.Edge(7), []int64{1, 2, 4, 9}, []int64{3, 5, 6, 8, 10}},
		{value.Edge(8), []int64{1, 2, 4, 9}, []int64{3, 5, 6, 7, 10}},
		{value.Edge(10), []int64{1, 2, 4, 9}, []int64{3, 5, 6, 7, 8}},
	} {
		g, e := drop(t, sample(), x.elem)
		wantErr(t, "Drop", e, api.OK)
		wantGraph(t, "Drop of "+tellValue(x.elem), g, picked(sample(), x.vertices, x.edges))
		wantErr(t, "Check of it", check(t, g), api.OK)
		h, e := drop(t, g, x.elem)
		wantErr(t, "Drop once more", e, api.ErrElem)
		wantGraph(t, "Drop once more", h, g)
	}
}

// P10.2: Drop of each element of many graphs; of what is none the graph is as it was.
func TestDropOfAny(t *testing.T) {
	for _, g := range may() {
		for _, elem := range elemsFor(g) {
			h, err := drop(t, g, elem)
			if propsAt(&g, elem) == nil {
				wantErr(t, "Drop of "+tellValue(elem), err, api.ErrElem)
				wantGraph(t, "Drop", h, g)
				continue
			}
			vertices, edges := []int64{}, []int64{}
			for _, x := range g.V {
				if elem.Kind != api.VVertex || x.Id != elem.N {
					vertices = append(vertices, x.Id)
				}
			}
			for _, x := range g.E {
				if elem.Kind == api.VVertex && x.Out != elem.N && x.In != elem.N || elem.Kind == api.VEdge && x.Id != elem.N {
					edges = append(edges, x.Id)
				}
			}
			wantErr(t, "Drop", err, api.OK)
			wantGraph(t, "Drop", h, picked(g, vertices, edges))
			if !mayBe(h) {
				t.Fatalf("Drop of %s may not be: %s", tellValue(elem), tell(h))
			}
		}
	}
}

// P10.2: an id that was dropped is not given again; what is dropped makes room.
func TestDropMakesRoomButNoIds(t *testing.T) {
	g := full(2048, 2048)
	g, err := drop(t, g, value.Vertex(2048))
	wantErr(t, "Drop", err, api.OK)
	if len(g.V) != 2047 || len(g.E) != 2046 || g.Last != 4096 {
		t.Fatal(len(g.V), len(g.E), g.Last)
	}
	g, id, err := addV(t, g, "a")
	if id != 4097 || err != api.OK || len(g.V) != 2048 {
		t.Fatal(id, err)
	}
	g, id, err = addE(t, g, "a", 4097, 1)
	if id != 4098 || err != api.OK || Check(g) != api.OK {
		t.Fatal(id, err)
	}
	g, _ = drop(t, sample(), value.Edge(10))
	_, id, _ = addV(t, g, "a")
	if id != 13 {
		t.Error("the id", id, "behind 12")
	}
}

// P10.2, R6: a graph whose elements are all gone is as one that never had any.
func TestDropOfAll(t *testing.T) {
	g := sample()
	for _, id := range []int64{1, 2, 4, 9} {
		g, _ = drop(t, g, value.Vertex(id))
	}
	if vertices, edges := left(g); len(vertices)+len(edges) != 0 || g.V != nil || g.E != nil || g.Last != 12 {
		t.Error(tell(g))
	}
}
