package delta

import (
	"math/rand"
	"slices"
	"testing"

	"ramble/api"
	"ramble/graph"
	"ramble/value"
)

// P13.5: Apply of a graph and Diff is the other one, whichever two they are.
func TestThereAndBack(t *testing.T) {
	r := rand.New(rand.NewSource(8))
	all := may()
	for _, a := range all {
		for _, b := range all {
			b.Last = max(a.Last, b.Last)
			wantThere(t, a, b)
		}
		for range 20 {
			b := near(r, a, 1+r.Intn(6))
			wantThere(t, a, b)
		}
	}
}

func wantThere(t *testing.T, a, b api.Graph) {
	t.Helper()
	l := Diff(a, b)
	g, many, err := Apply(a, l...)
	if many != len(l) || err != api.OK || !graph.Same(g, b) {
		t.Fatalf("%d of %d done, %d: from %s\nto %s\nit comes to %s\nby %s", many, len(l), err, tell(a), tell(b), tell(g), tellChanges(l))
	}
}

// P13.5: Diff of a graph and itself is nothing; nor is there one behind Apply of Diff, but for a Last that fell.
func TestDiffOfTheSame(t *testing.T) {
	for _, g := range may() {
		if l := diff(t, g, g); l != nil {
			t.Fatalf("Diff of %s and itself: %s", tell(g), tellChanges(l))
		}
		if l := diff(t, g, graph.Clone(g)); len(l) != 0 {
			t.Fatalf("Diff of %s and its clone: %s", tell(g), tellChanges(l))
		}
		lower := graph.Clone(sample())
		lower.Last = 10
		if l := diff(t, sample(), lower); len(l) != 0 {
			t.Fatalf("Diff of Last alone: %s", tellChanges(l))
		}
	}
}

// small is a graph in which all that changes can meet is near.
func small() api.Graph {
	return api.Graph{
		V:    []api.Vertex{v(1, "a", p("x", value.Int(1))), v(2, "a")},
		E:    []api.Link{e(3, "k", 1, 2, p("x", value.Int(1)))},
		Last: 3,
	}
}

// few are changes that meet each other in that graph.
func few() []api.Change {
	return []api.Change{
		addsV(4, "a"), addsV(5, "b"), addsV(3, "a"), addsV(1, "b"), addsE(5, "k", 1, 2), addsE(6, "k", 2, 2), addsE(6, "k", 1, 4), addsE(3, "l", 2, 1), addsE(7, "k", 5, 4),
		sets(1, "x", value.Int(2)), sets(1, "y", value.Int(1)), sets(2, "x", value.Int(1)), sets(-3, "x", value.Int(2)), sets(4, "x", value.Int(3)), sets(-6, "x", value.Int(3)),
		unsets(1, "x"), unsets(2, "x"), unsets(-3, "x"), dropsIt(1), dropsIt(2), dropsIt(-3), dropsIt(4), dropsIt(-6), lastIs(2), lastIs(9),
	}
}

// doable are all lists of at most that many of the few that are done with g without an error.
func doable(g api.Graph, most int) []Changes {
	out := []Changes{nil}
	for at := 0; at < len(out); at++ {
		if len(out[at]) == most {
			break
		}
		for _, c := range few() {
			l := append(slices.Clone(out[at]), c)
			if _, _, err := Apply(g, l...); err == api.OK {
				out = append(out, l)
			}
		}
	}
	return out
}

// P13.6: changes that are not in conflict are done in either order, and come to the same.
func TestEitherOrder(t *testing.T) {
	g := small()
	free := 0
	lists := doable(g, 2)
	for _, a := range lists {
		for _, b := range lists {
			if !Conflict(g, a, b) {
				free++
				wantEither(t, g, a, b)
			}
		}
	}
	if free < 1000 {
		t.Errorf("of %d lists %d pairs", len(lists), free)
	}
}

func wantEither(t *testing.T, g api.Graph, a, b Changes) {
	t.Helper()
	one, _, err := Apply(g, slices.Concat(a, b)...)
	other, _, err2 := Apply(g, slices.Concat(b, a)...)
	if err != api.OK || err2 != api.OK || !graph.Same(one, other) {
		t.Fatalf("%d and %d: %s\nand %s\nof\n%s\nand\n%s", err, err2, tell(one), tell(other), tellChanges(a), tellChanges(b))
	}
}

// P13.6: longer lists, by chance.
func TestEitherOrderOfAny(t *testing.T) {
	r := rand.New(rand.NewSource(9))
	free := 0
	all := may()
	for range 4000 {
		g := all[r.Intn(len(all))]
		a, b := doneOf(r, g, 8), doneOf(r, g, 8)
		if !Conflict(g, a, b) {
			free++
			wantEither(t, g, a, b)
		}
	}
	if free < 500 {
		t.Error("pairs without conflict: ", free)
	}
}

// doneOf are at most that many changes by chance that are done with g without an error.
func doneOf(r *rand.Rand, g api.Graph, most int) Changes {
	var l Changes
	for range most {
		c := someChange(r)
		if h, many, _ := Apply(g, c); many == 1 {
			g, l = h, append(l, c)
		}
	}
	return l
}

// P13.6: the one error that either order may bring: there are MaxElems of a kind.
func TestEitherOrderOfFullGraphs(t *testing.T) {
	g := full(2047, 2047)
	a, b := Changes{addsV(5000, "a")}, Changes{addsV(5001, "a")}
	wantConflict(t, "two vertices", g, a, b, false)
	wantStop(t, g, 1, api.ErrFull, a[0], b[0])
	a, b = Changes{addsE(5000, "a", 1, 2)}, Changes{addsE(5001, "a", 1, 2)}
	wantConflict(t, "two edges", g, a, b, false)
	wantStop(t, g, 1, api.ErrFull, b[0], a[0])
	wantEither(t, g, Changes{addsV(5000, "a")}, b)
}

// P13.7: an element that changes do not write is behind them as it was.
func TestJustThese(t *testing.T) {
	r := rand.New(rand.NewSource(10))
	all := may()
	kept := 0
	for range 4000 {
		g := all[r.Intn(len(all))]
		l := someChanges(r, 5)
		h, many, _ := Apply(g, l...)
		written := l[:many].Writes(g)
		is := func(elem api.Value) bool {
			return slices.ContainsFunc(written, func(x api.Value) bool { return value.Same(x, elem) })
		}
		for _, x := range g.V {
			if y, there := graph.V(h, x.Id); !is(value.Vertex(x.Id)) {
				kept++
				wantGraph(t, tellChanges(l), api.Graph{V: []api.Vertex{y}}, api.Graph{V: []api.Vertex{x}})
				if !there {
					t.Fatal("gone")
				}
			}
		}
		for _, x := range g.E {
			if y, there := graph.E(h, x.Id); !is(value.Edge(x.Id)) {
				kept++
				wantGraph(t, tellChanges(l), api.Graph{E: []api.Link{y}}, api.Graph{E: []api.Link{x}})
				if !there {
					t.Fatal("gone")
				}
			}
		}
	}
	if kept < 1000 {
		t.Error("elements that were not written: ", kept)
	}
}

// P13.5, P13.7: Diff writes no element that both graphs have alike.
func TestDiffWritesWhatIsOtherwise(t *testing.T) {
	r := rand.New(rand.NewSource(11))
	all := may()
	for range 2000 {
		a := all[r.Intn(len(all))]
		b := near(r, a, 1+r.Intn(4))
		for _, elem := range Diff(a, b).Writes(a) {
			if elem.Kind == api.VVertex {
				x, isX := graph.V(a, elem.N)
				y, isY := graph.V(b, elem.N)
				if isX && isY && graph.Same(api.Graph{V: []api.Vertex{x}}, api.Graph{V: []api.Vertex{y}}) {
					t.Fatalf("v[%d] is written: from %s\nto %s", elem.N, tell(a), tell(b))
				}
			}
		}
	}
}
