package gstore

import (
	"fmt"
	"math/rand"
	"testing"

	"ramble/api"
	"ramble/graph"
	"ramble/value"
)

// change makes one change by chance of a graph; what can't be done is left.
func change(r *rand.Rand, g api.Graph) api.Graph {
	id := func() int64 {
		if len(g.V) == 0 {
			return 1
		}
		return g.V[r.Intn(len(g.V))].Id
	}
	elem := func() api.Value {
		if len(g.E) > 0 && r.Intn(2) == 0 {
			return value.Edge(g.E[r.Intn(len(g.E))].Id)
		}
		return value.Vertex(id())
	}
	switch r.Intn(12) {
	case 0, 1, 2:
		g, _, _ = graph.AddV(g, someName(r))
	case 3, 4, 5:
		g, _, _ = graph.AddE(g, someName(r), id(), id())
	case 6, 7, 8, 9:
		g, _ = graph.Set(g, elem(), []string{"a", "B", "b1"}[r.Intn(3)], someValue(r))
	case 10:
		g, _, _ = graph.Unset(g, elem(), "a")
	default:
		g, _ = graph.Drop(g, elem())
	}
	return g
}

// P12.4: what is read behind each of many Saves is what chapter 10 tells of the graph; the same when it is opened anew, with whatever pool.
func TestManySaves(t *testing.T) {
	for seed := range 10 {
		t.Run(fmt.Sprint(seed), func(t *testing.T) {
			t.Parallel()
			rnd := rand.New(rand.NewSource(int64(seed)))
			r := newRig(t, 700+rnd.Intn(500), 200, 190)
			g := api.Graph{}
			for i := range 25 {
				switch rnd.Intn(8) {
				case 0:
					g = someGraph(rnd, rnd.Intn(15), rnd.Intn(20))
				case 1:
					g = api.Graph{Last: g.Last}
				default:
					for range rnd.Intn(12) {
						g = change(rnd, g)
					}
				}
				r.save(g)
				if rnd.Intn(3) == 0 {
					r.reopen()
				}
				a := few(g)
				if i%5 > 0 && len(a.values) > 3 {
					a.values = a.values[:3]
				}
				reads(t, fmt.Sprint("Save ", i), r.s, g, a)
				r.wantForm(g)
			}
			r.open(api.MinPool)
			reads(t, "at last", r.s, g, few(g))
		})
	}
}

// wantForm holds that the entries of a graph stand in the tree, nothing else does, and nobody else has a page.
func (r *rig) wantForm(g api.Graph) {
	r.t.Helper()
	if a, b := fmt.Sprintf("%q", r.rows()), fmt.Sprintf("%q", rowsOf(g)); a != b {
		r.t.Fatalf("the tree has %s, want %s", a, b)
	}
	if keys, pages, err := r.tree().Check(); err != api.OK || pages != r.used() || keys != len(rowsOf(g)) {
		r.t.Fatalf("%d keys, %d pages, %d; %d pages are in use", keys, pages, err, r.used())
	}
}

// P12.4: a graph with as many elements as may be, which is saved bit by bit, and gone through whole.
func TestGreatGraph(t *testing.T) {
	t.Parallel()
	if testing.Short() {
		t.Skip("takes seconds")
	}
	r := newRig(t, api.MaxSlots, 2000, api.MaxPool)
	var g api.Graph
	for i := range int64(api.MaxElems) {
		g.V = append(g.V, v(i+1, "a"))
		g.Last++
		if i%400 == 399 {
			r.save(g)
		}
	}
	for i := range int64(api.MaxElems) {
		g.E = append(g.E, e(g.Last+1, "b", i*i%100+1, i%1000+1))
		g.Last++
		if i%200 == 199 {
			r.save(g)
		}
	}
	r.save(g)
	r.open(100)
	reads(t, "great", r.s, g, asks{ids: []int64{1, 2, 101, api.MaxElems, api.MaxElems + 1, g.Last, g.Last + 1}, kinds: []int{api.VVertex, api.VEdge}, labels: [][]string{nil, {"a"}, {"b"}}})
	more := graph.Clone(g)
	more.E = append(more.E, e(g.Last+1, "b", 1, 1))
	more.Last++
	want(t, "one more", save(t, r.s, more), api.ErrGraph)
	r.save(api.Graph{})
	if r.used() != 0 {
		t.Errorf("%d pages are in use", r.used())
	}
}
