package graph

import (
	"math"
	"testing"

	"ramble/api"
	"ramble/value"
)

// noNames are texts that are no names.
func noNames() []string {
	return []string{"", "9", "9a", "a-b", "a b", "a'", "\x00", "ä", "a\xff", long("a", 25)}
}

// P10.2: the example of the chapter.
func TestExample(t *testing.T) {
	g, one, _ := addV(t, api.Graph{}, "person")
	g, two, _ := addV(t, g, "person")
	g, id, e0 := addE(t, g, "knows", 1, 2)
	if one != 1 || two != 2 || id != 3 || e0 != api.OK {
		t.Fatal(one, two, id, e0)
	}
	wantGraph(t, "two and an edge", g, api.Graph{V: []api.Vertex{v(1, "person"), v(2, "person")}, E: []api.Link{e(3, "knows", 1, 2)}, Last: 3})
	wantLinks(t, "Out(1)", outOf(t, g, 1), 3)
	wantLinks(t, "In(2)", into(t, g, 2), 3)
	g, e0 = drop(t, g, value.Vertex(2))
	wantErr(t, "Drop", e0, api.OK)
	wantGraph(t, "without v[2]", g, api.Graph{V: []api.Vertex{v(1, "person")}, Last: 3})
}

// P10.2: AddV puts a vertex behind the others, with an id that was never given.
func TestAddV(t *testing.T) {
	for _, g := range may() {
		for _, name := range []string{"a", "_", "Z9", long("a", 24)} {
			h, id, e := addV(t, g, name)
			if g.Last == api.MaxId {
				wantErr(t, "AddV at the last id", e, api.ErrFull)
				continue
			}
			want := clone(t, g)
			want.Last++
			want.V = append(want.V, v(want.Last, name))
			wantErr(t, "AddV", e, api.OK)
			wantGraph(t, "AddV", h, want)
			if id != g.Last+1 || !mayBe(h) {
				t.Fatalf("AddV: the id %d behind %d, and %s", id, g.Last, tell(h))
			}
		}
	}
}

// P10.2: what AddV refuses, and what is answered then.
func TestAddVRefuses(t *testing.T) {
	for _, name := range noNames() {
		for _, g := range []api.Graph{{}, sample(), {Last: api.MaxId}, full(2048, 1)} {
			h, id, e := addV(t, g, name)
			wantErr(t, "AddV of a label that is no name", e, api.ErrLabel)
			wantGraph(t, "AddV", h, g)
			if id != 0 {
				t.Fatalf("AddV: %d beside an error", id)
			}
		}
	}
	for _, g := range []api.Graph{{Last: api.MaxId}, full(2048, 0), full(2048, 5), {V: []api.Vertex{v(3, "a")}, Last: api.MaxId}} {
		h, id, e := addV(t, g, "a")
		wantErr(t, "AddV of a full graph", e, api.ErrFull)
		wantGraph(t, "AddV", h, g)
		if id != 0 {
			t.Fatalf("AddV: %d beside an error", id)
		}
	}
}

// P10.2: the last vertex, and the last id, for which there is room.
func TestAddVAtTheLimits(t *testing.T) {
	for _, g := range []api.Graph{full(2047, 0), full(2047, 2048), {Last: api.MaxId - 1}} {
		h, id, e := addV(t, g, "a")
		if id != g.Last+1 || e != api.OK || len(h.V) != len(g.V)+1 || Check(h) != api.OK {
			t.Fatalf("AddV at the limits: %d, %d", id, e)
		}
		_, _, e = addV(t, h, "a")
		wantErr(t, "AddV beyond the limits", e, api.ErrFull)
	}
}

// P10.2: AddE puts an edge behind the others, between any two vertices, or one and itself.
func TestAddE(t *testing.T) {
	for _, g := range may() {
		for _, from := range idsIn(g) {
			for _, to := range idsIn(g)[:6] {
				h, id, err := addE(t, g, "a", from, to)
				_, isFrom := V(g, from)
				_, isTo := V(g, to)
				if !isFrom || !isTo {
					wantErr(t, "AddE of a vertex that there is not", err, api.ErrElem)
					continue
				}
				if g.Last == api.MaxId {
					wantErr(t, "AddE at the last id", err, api.ErrFull)
					continue
				}
				want := clone(t, g)
				want.Last++
				want.E = append(want.E, e(want.Last, "a", from, to))
				wantErr(t, "AddE", err, api.OK)
				wantGraph(t, "AddE", h, want)
				if id != g.Last+1 || !mayBe(h) {
					t.Fatalf("AddE: the id %d behind %d, and %s", id, g.Last, tell(h))
				}
			}
		}
	}
}

// P10.2: what AddE refuses, in its order, and what is answered then.
func TestAddERefuses(t *testing.T) {
	noRoom, lastId := full(2, 2048), api.Graph{V: []api.Vertex{v(1, "a"), v(2, "a")}, E: []api.Link{e(3, "a", 1, 1)}, Last: api.MaxId}
	for _, g := range []api.Graph{sample(), noRoom, lastId} {
		refused := func(want api.Errno, label string, from, to int64) {
			t.Helper()
			h, id, e := addE(t, g, label, from, to)
			wantErr(t, "AddE", e, want)
			wantGraph(t, "AddE", h, g)
			if id != 0 {
				t.Fatalf("AddE: %d beside an error", id)
			}
		}
		for _, name := range noNames() {
			refused(api.ErrLabel, name, 1, 2)
			refused(api.ErrLabel, name, 3, 77)
		}
		// 3 is an edge of each of them.
		for _, id := range []int64{3, 0, -1, -2, 13, 5000, api.MaxId, math.MinInt64, math.MaxInt64} {
			refused(api.ErrElem, "a", id, 1)
			refused(api.ErrElem, "a", 1, id)
			refused(api.ErrElem, "a", id, id)
		}
		if g.Last != 12 {
			refused(api.ErrFull, "a", 1, 2)
			refused(api.ErrFull, "a", 2, 2)
		}
	}
}

// P10.2: the last edge, and the last id, for which there is room; vertices do not take it.
func TestAddEAtTheLimits(t *testing.T) {
	for _, g := range []api.Graph{full(1, 2047), full(2048, 2047), {V: []api.Vertex{v(1, "a")}, Last: api.MaxId - 1}} {
		h, id, e := addE(t, g, "a", 1, 1)
		if id != g.Last+1 || e != api.OK || len(h.E) != len(g.E)+1 || Check(h) != api.OK {
			t.Fatalf("AddE at the limits: %d, %d", id, e)
		}
		_, _, e = addE(t, h, "a", 1, 1)
		wantErr(t, "AddE beyond the limits", e, api.ErrFull)
	}
}
