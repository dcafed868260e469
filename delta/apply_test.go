package delta

import (
	"math/rand"
	"slices"
	"testing"

	"ramble/api"
	"ramble/graph"
	"ramble/value"
)

// applied is the chapter's sentence of Apply, word by word, over graphs as they are.
func applied(g api.Graph, l []api.Change) (api.Graph, int, api.Errno) {
	g = graph.Clone(g)
	if err := graph.Check(g); err != api.OK {
		return g, 0, err
	}
	for i, c := range l {
		h, err := appliedOne(graph.Clone(g), c)
		if err != api.OK {
			return g, i, err
		}
		g = h
	}
	return g, len(l), api.OK
}

func appliedOne(g api.Graph, c api.Change) (api.Graph, api.Errno) {
	if !mayBeSo(c) {
		return g, api.ErrChange
	}
	id := c.Elem.N
	there := func(id int64) bool { return slices.ContainsFunc(g.V, func(x api.Vertex) bool { return x.Id == id }) }
	twice := there(id) || slices.ContainsFunc(g.E, func(x api.Link) bool { return x.Id == id })
	var err api.Errno
	switch c.Kind {
	case api.ChAddV:
		if twice {
			return g, api.ErrTwice
		}
		if len(g.V) == 2048 {
			return g, api.ErrFull
		}
		g.V = append(g.V, v(id, c.Label))
		slices.SortFunc(g.V, func(a, b api.Vertex) int { return int(a.Id - b.Id) })
		g.Last = max(g.Last, id)
	case api.ChAddE:
		if twice {
			return g, api.ErrTwice
		}
		if !there(c.Out) || !there(c.In) {
			return g, api.ErrElem
		}
		if len(g.E) == 2048 {
			return g, api.ErrFull
		}
		g.E = append(g.E, e(id, c.Label, c.Out, c.In))
		slices.SortFunc(g.E, func(a, b api.Link) int { return int(a.Id - b.Id) })
		g.Last = max(g.Last, id)
	case api.ChSet:
		g, err = graph.Set(g, c.Elem, c.Name, c.Value)
	case api.ChUnset:
		g, _, err = graph.Unset(g, c.Elem, c.Name)
	case api.ChDrop:
		g, err = graph.Drop(g, c.Elem)
	case api.ChLast:
		g.Last = max(g.Last, c.Out)
	}
	return g, err
}

func wantApplied(t *testing.T, g api.Graph, l ...api.Change) (api.Graph, api.Errno) {
	t.Helper()
	got, many, err := apply(t, g, l...)
	want, wantMany, want0 := applied(g, l)
	what := "Apply of " + tellChanges(l) + "\nto " + tell(g)
	wantErr(t, what, err, want0)
	wantGraph(t, what, got, want)
	if many != wantMany {
		t.Fatalf("%s: %d done, want %d", what, many, wantMany)
	}
	return got, err
}

// wantDone fails unless all is done, and the graph is that.
func wantDone(t *testing.T, g, want api.Graph, l ...api.Change) {
	t.Helper()
	got, many, err := apply(t, g, l...)
	wantErr(t, tellChanges(l), err, api.OK)
	wantGraph(t, tellChanges(l), got, want)
	if many != len(l) {
		t.Fatalf("%s: %d done", tellChanges(l), many)
	}
}

// wantStop fails unless it ends at a change with an error, and the graph is that of the changes ahead of it.
func wantStop(t *testing.T, g api.Graph, many int, want api.Errno, l ...api.Change) {
	t.Helper()
	got, did, err := apply(t, g, l...)
	wantErr(t, tellChanges(l), err, want)
	ahead, _, _ := apply(t, g, l[:many]...)
	wantGraph(t, tellChanges(l), got, ahead)
	if did != many {
		t.Fatalf("%s: %d done, want %d", tellChanges(l), did, many)
	}
}

// P13.2: a vertex stands in its place by ids, without properties; Last is the greater one.
func TestApplyAddV(t *testing.T) {
	g := api.Graph{V: []api.Vertex{v(3, "a", p("x", value.Int(1))), v(7, "b")}, E: []api.Link{e(5, "k", 7, 3)}, Last: 8}
	for _, id := range []int64{1, 4, 6, 8, 9, api.MaxId} {
		want := graph.Clone(g)
		want.V = append(want.V, v(id, "c"))
		slices.SortFunc(want.V, func(a, b api.Vertex) int { return int(a.Id - b.Id) })
		want.Last = max(8, id)
		wantDone(t, g, want, addsV(id, "c"))
	}
	wantDone(t, api.Graph{}, api.Graph{V: []api.Vertex{v(2, "b"), v(4, "a")}, Last: 4}, addsV(4, "a"), addsV(2, "b"))
	for _, id := range []int64{3, 5, 7} {
		wantStop(t, g, 0, api.ErrTwice, addsV(id, "c"))
		wantStop(t, g, 1, api.ErrTwice, addsV(4, "c"), addsV(id, "c"), addsV(6, "c"))
	}
	wantStop(t, g, 1, api.ErrTwice, addsV(4, "c"), addsV(4, "c"))
}

// P13.2: an edge stands in its place by ids, between vertices that there are.
func TestApplyAddE(t *testing.T) {
	g := api.Graph{V: []api.Vertex{v(3, "a"), v(7, "b")}, E: []api.Link{e(5, "k", 7, 3, p("x", value.Int(1)))}, Last: 8}
	for _, id := range []int64{1, 4, 6, 8, 9, api.MaxId} {
		for _, ends := range [][2]int64{{3, 7}, {7, 3}, {3, 3}} {
			want := graph.Clone(g)
			want.E = append(want.E, e(id, "c", ends[0], ends[1]))
			slices.SortFunc(want.E, func(a, b api.Link) int { return int(a.Id - b.Id) })
			want.Last = max(8, id)
			wantDone(t, g, want, addsE(id, "c", ends[0], ends[1]))
		}
	}
	for _, id := range []int64{3, 5, 7} {
		wantStop(t, g, 0, api.ErrTwice, addsE(id, "c", 3, 7))
		wantStop(t, g, 0, api.ErrTwice, addsE(id, "c", 1, 1))
	}
	for _, end := range []int64{1, 2, 5, 8, api.MaxId} {
		wantStop(t, g, 0, api.ErrElem, addsE(6, "c", end, 3))
		wantStop(t, g, 0, api.ErrElem, addsE(6, "c", 3, end))
		wantStop(t, g, 0, api.ErrElem, addsE(6, "c", end, end))
		wantStop(t, g, 1, api.ErrElem, addsE(6, "c", 3, 7), addsE(20, "c", end, 3))
	}
	wantDone(t, g, api.Graph{V: []api.Vertex{v(1, "d"), v(3, "a"), v(7, "b")}, E: []api.Link{g.E[0], e(6, "c", 1, 3)}, Last: 8}, addsV(1, "d"), addsE(6, "c", 1, 3))
	wantStop(t, g, 0, api.ErrElem, addsE(6, "c", 6, 3))
}

// P13.2: how many vertices and edges there may be, and which error stands ahead of which.
func TestApplyAtTheLimits(t *testing.T) {
	vertices, edges := full(2048, 1), full(1, 2048)
	wantStop(t, vertices, 0, api.ErrFull, addsV(3000, "a"))
	wantStop(t, edges, 0, api.ErrFull, addsE(3000, "a", 1, 1))
	wantStop(t, vertices, 0, api.ErrTwice, addsV(5, "a"))
	wantStop(t, vertices, 0, api.ErrTwice, addsV(2049, "a"))
	wantStop(t, edges, 0, api.ErrTwice, addsE(5, "a", 1, 1))
	wantStop(t, edges, 0, api.ErrTwice, addsE(1, "a", 1, 1))
	wantStop(t, edges, 0, api.ErrElem, addsE(3000, "a", 1, 2))
	wantStop(t, edges, 0, api.ErrElem, addsE(3000, "a", 2, 1))
	wantStop(t, edges, 0, api.ErrChange, addsE(3000, "9", 1, 1))
	wantStop(t, vertices, 0, api.ErrChange, addsV(3000, "9"))
	// The other kind has room.
	wantStop(t, edges, 1, api.ErrFull, addsV(3000, "a"), addsE(3001, "a", 1, 3000))
	wantStop(t, vertices, 1, api.ErrFull, addsE(3000, "a", 1, 2048), addsV(3001, "a"))
	// One fewer, and what is dropped makes room.
	wantStop(t, full(2047, 0), 1, api.ErrFull, addsV(3000, "a"), addsV(3001, "a"))
	wantStop(t, full(1, 2047), 1, api.ErrFull, addsE(3000, "a", 1, 1), addsE(3001, "a", 1, 1))
	wantStop(t, vertices, 2, api.ErrFull, dropsIt(7), addsV(3000, "a"), addsV(7, "a"))
	wantStop(t, edges, 2, api.ErrFull, dropsIt(-7), addsE(3000, "a", 1, 1), addsE(7, "a", 1, 1))
}

// P13.2: ChLast raises Last, and never lowers it.
func TestApplyLast(t *testing.T) {
	g := sample()
	for _, id := range []int64{1, 11, 12, 13, api.MaxId} {
		want := graph.Clone(g)
		want.Last = max(12, id)
		wantDone(t, g, want, lastIs(id))
		wantDone(t, g, want, lastIs(id), lastIs(2))
	}
	wantStop(t, g, 0, api.ErrChange, lastIs(0))
	wantStop(t, g, 1, api.ErrChange, lastIs(20), lastIs(api.MaxId+1))
}

// P13.2: ChSet is graph's Set, of vertices and of edges, with its errors.
func TestApplySet(t *testing.T) {
	for _, g := range []api.Graph{sample(), may()[8]} {
		for _, elem := range []int64{1, 2, 4, 9, 3, -1, -2, -3, -6, -8, -10, 11, -11, api.MaxId} {
			for _, name := range []string{"a", "a00", "age", "b", "name", "zz"} {
				for _, x := range []api.Value{value.Int(30), list(value.Vertex(1)), within(7)} {
					want, err := graph.Set(g, elemOf(elem), name, x)
					got, many, e := apply(t, g, sets(elem, name, x))
					wantErr(t, "ChSet", e, err)
					wantGraph(t, "ChSet", got, want)
					if many == 1 != (err == api.OK) {
						t.Fatal("ChSet: ", many)
					}
				}
			}
		}
	}
	wantStop(t, sample(), 0, api.ErrElem, sets(3, "a", value.Int(1)))
	wantStop(t, sample(), 0, api.ErrElem, sets(-1, "a", value.Int(1)))
	wantStop(t, may()[8], 1, api.ErrProps, sets(1, "a07", value.Int(1)), sets(1, "a", value.Int(1)))
	wantStop(t, may()[8], 1, api.ErrProps, sets(-2, "a07", value.Int(1)), sets(-2, "zz", value.Int(1)))
	wantDone(t, api.Graph{V: []api.Vertex{v(1, "a")}, Last: 1}, api.Graph{V: []api.Vertex{v(1, "a", p("B", value.Int(2)), p("a", value.Int(3)))}, Last: 1}, sets(1, "a", value.Int(1)), sets(1, "B", value.Int(2)), sets(1, "a", value.Int(3)))
}

// P13.2: ChUnset is graph's Unset; that a property was not there is no error.
func TestApplyUnset(t *testing.T) {
	g := sample()
	for _, elem := range []int64{1, 2, 4, 9, 3, -1, -2, -3, -6, -8, -10, 11, -11, api.MaxId} {
		for _, name := range []string{"age", "friends", "name", "since", "what", "zz"} {
			want, _, err := graph.Unset(g, elemOf(elem), name)
			got, many, e := apply(t, g, unsets(elem, name))
			wantErr(t, "ChUnset", e, err)
			wantGraph(t, "ChUnset", got, want)
			if many == 1 != (err == api.OK) {
				t.Fatal("ChUnset: ", many)
			}
		}
	}
	wantDone(t, g, g, unsets(9, "zz"), unsets(-5, "age"), unsets(1, "since"))
	wantStop(t, g, 1, api.ErrElem, unsets(9, "zz"), unsets(12, "zz"))
	wantStop(t, g, 0, api.ErrElem, unsets(-9, "zz"))
}

// P13.2: ChDrop is graph's Drop: of a vertex without its edges, those included that were just added.
func TestApplyDrop(t *testing.T) {
	g := sample()
	for _, elem := range []int64{1, 2, 4, 9, 3, -1, -2, -3, -5, -6, -7, -8, -10, 11, -11, api.MaxId} {
		want, err := graph.Drop(g, elemOf(elem))
		got, many, e := apply(t, g, dropsIt(elem))
		wantErr(t, "ChDrop", e, err)
		wantGraph(t, "ChDrop", got, want)
		if many == 1 != (err == api.OK) {
			t.Fatal("ChDrop: ", many)
		}
	}
	without, _ := graph.Drop(g, value.Vertex(9))
	without.Last = 15
	wantDone(t, g, without, addsE(14, "k", 9, 9), addsE(15, "k", 1, 9), addsE(13, "k", 9, 1), dropsIt(9))
	wantStop(t, g, 2, api.ErrElem, addsE(14, "k", 9, 9), dropsIt(9), dropsIt(-14))
	// What was dropped may be added again, without what it had.
	again, _ := graph.Drop(g, value.Vertex(1))
	again.V = append([]api.Vertex{v(1, "b")}, again.V...)
	wantDone(t, g, again, dropsIt(1), addsV(1, "b"))
	edge, _ := graph.Drop(g, value.Edge(3))
	edge.E = append([]api.Link{e(3, "b", 2, 2)}, edge.E...)
	wantDone(t, g, edge, dropsIt(-3), addsE(3, "b", 2, 2))
	other, _ := graph.Drop(g, value.Edge(3))
	other.V = slices.Insert(other.V, 2, v(3, "b"))
	wantDone(t, g, other, dropsIt(-3), addsV(3, "b"))
}

// P13.2: Check's error is the first of each change, and what is behind an error is not done.
func TestApplyOfChangesThatMayNotBe(t *testing.T) {
	g := sample()
	for _, c := range []api.Change{{}, {Kind: 7, Elem: value.Vertex(20), Label: "a"}, addsV(1, "9"), addsV(0, "a"), addsE(20, "a", 0, 1), sets(11, "9", value.Int(1)), sets(1, "a", api.Value{}), unsets(11, ""), dropsIt(0), lastIs(0)} {
		wantStop(t, g, 0, api.ErrChange, c)
		wantStop(t, g, 1, api.ErrChange, addsV(20, "a"), c, addsV(21, "a"))
	}
}

// P13.2, P10.1: of a graph that may not be nothing is done, whatever the changes are; it is answered as it is.
func TestApplyToGraphsThatMayNotBe(t *testing.T) {
	for _, g := range mayNot() {
		for _, l := range []Changes{nil, {addsV(20, "a")}, {{}}, {lastIs(30), dropsIt(1)}} {
			got, many, err := apply(t, g, l...)
			wantErr(t, "Apply", err, api.ErrGraph)
			wantGraph(t, "Apply", got, g)
			if many != 0 {
				t.Fatal("Apply: ", many)
			}
		}
	}
}

// P13.2: no changes.
func TestApplyOfNone(t *testing.T) {
	for _, g := range may() {
		wantDone(t, g, g)
		wantDone(t, g, g, Changes{}...)
	}
}

// P13.2: changes of anything, against the sentence.
func TestApplyOfAny(t *testing.T) {
	r := rand.New(rand.NewSource(2))
	all := may()
	met := map[api.Errno]int{}
	for range 3000 {
		g := all[r.Intn(len(all))]
		l := someChanges(r, 6)
		if r.Intn(3) == 0 {
			l = wildChanges(r, 6)
		}
		got, err := wantApplied(t, g, l...)
		if graph.Check(got) != api.OK {
			t.Fatalf("Apply of %s to %s may not be", tellChanges(l), tell(g))
		}
		met[err]++
	}
	for _, err := range []api.Errno{api.OK, api.ErrTwice, api.ErrElem, api.ErrChange} {
		if met[err] < 100 {
			t.Errorf("the error %d came %d times", err, met[err])
		}
	}
}

// P13.2: long lists, in which many a change is done.
func TestApplyOneByOne(t *testing.T) {
	r := rand.New(rand.NewSource(3))
	for range 30 {
		g := api.Graph{}
		var l Changes
		for range 60 {
			c := someChange(r)
			h, err := wantApplied(t, g, c)
			if err == api.OK {
				g, l = h, append(l, c)
			}
		}
		wantDone(t, api.Graph{}, g, l...)
	}
}
