package graph

import (
	"maps"
	"math/rand"
	"slices"
	"testing"

	"ramble/api"
	"ramble/value"
)

// name is an element by kind and id, item what it has.
type name struct {
	kind int
	id   int64
}

type item struct {
	label   string
	out, in int64
	props   map[string]string
}

// world is what a graph says, as a map of elements: what was not changed in it is as it was.
func world(g api.Graph) map[name]item {
	w := map[name]item{}
	note := func(l []api.Prop) map[string]string {
		m := map[string]string{}
		for _, x := range l {
			m[x.Name] = tellValue(x.Value)
		}
		return m
	}
	for _, x := range g.V {
		w[name{api.VVertex, x.Id}] = item{label: x.Label, props: note(x.Props)}
	}
	for _, x := range g.E {
		w[name{api.VEdge, x.Id}] = item{label: x.Label, out: x.Out, in: x.In, props: note(x.Props)}
	}
	return w
}

func sameItem(a, b item) bool {
	return a.label == b.label && a.out == b.out && a.in == b.in && maps.Equal(a.props, b.props)
}

func wantWorld(t *testing.T, what string, g api.Graph, last int64, want map[name]item) {
	t.Helper()
	if got := world(g); !maps.EqualFunc(got, want, sameItem) || g.Last != last || len(g.V)+len(g.E) != len(want) {
		t.Fatalf("%s: %s\nwant %d, %v", what, tell(g), last, want)
	}
	if !mayBe(g) || Check(g) != api.OK {
		t.Fatalf("%s: what may not be: %s", what, tell(g))
	}
}

// walk changes a graph again and again, and with it a map of what it must say.
type walk struct {
	t     *testing.T
	r     *rand.Rand
	g     api.Graph
	last  int64
	world map[name]item
}

func (w *walk) id() int64 { return int64(w.r.Intn(int(w.last) + 2)) }

// elem is mostly an element that there is.
func (w *walk) elem() api.Value {
	all := slices.SortedFunc(maps.Keys(w.world), func(a, b name) int { return int(a.id - b.id) })
	if len(all) == 0 || w.r.Intn(8) == 0 {
		return []api.Value{value.Vertex(w.id()), value.Edge(w.id()), value.Int(1), list()}[w.r.Intn(4)]
	}
	x := all[w.r.Intn(len(all))]
	return api.Value{Kind: x.kind, N: x.id}
}

func (w *walk) isVertex(id int64) bool {
	_, is := w.world[name{api.VVertex, id}]
	return is
}

func (w *walk) addV() {
	s := append(noNames(), "a", "b", "c", "d", "a", "b", "c", "d", "e", "f")[w.r.Intn(20)]
	g, id, e := addV(w.t, w.g, s)
	w.added("AddV", g, id, e, value.Name(s), true, name{api.VVertex, w.last + 1}, item{label: s})
}

func (w *walk) addE() {
	s := []string{"a", "b", "c", "9", "a", "b"}[w.r.Intn(6)]
	from, to := w.id(), w.id()
	g, id, e := addE(w.t, w.g, s, from, to)
	w.added("AddE", g, id, e, value.Name(s), w.isVertex(from) && w.isVertex(to), name{api.VEdge, w.last + 1}, item{label: s, out: from, in: to})
}

func (w *walk) added(what string, g api.Graph, id int64, e api.Errno, isName, ends bool, as name, x item) {
	w.t.Helper()
	want := api.OK
	switch {
	case !isName:
		want = api.ErrLabel
	case !ends:
		want = api.ErrElem
	default:
		w.last++
		w.world[as] = x
	}
	wantErr(w.t, what, e, want)
	if want == api.OK && id != w.last || want != api.OK && id != 0 {
		w.t.Fatalf("%s: the id %d", what, id)
	}
	w.g = g
}

func (w *walk) set() {
	elem, x := w.elem(), someValue(w.r)
	s := append(noNames()[:2], "a", "b", "c", "B", "_")[w.r.Intn(7)]
	if w.r.Intn(10) == 0 {
		x = badValues()[w.r.Intn(len(badValues()))]
	}
	g, e := set(w.t, w.g, elem, s, x)
	as := name{elem.Kind, elem.N}
	old, is := w.world[as]
	_, has := old.props[s]
	want := api.OK
	switch {
	case !is:
		want = api.ErrElem
	case !value.Name(s):
		want = api.ErrLabel
	case value.Check(x) != api.OK:
		want = api.ErrValue
	case !has && len(old.props) == 16:
		want = api.ErrProps
	default:
		old.props = maps.Clone(old.props)
		if old.props == nil {
			old.props = map[string]string{}
		}
		old.props[s] = tellValue(x)
		w.world[as] = old
	}
	wantErr(w.t, "Set", e, want)
	w.g = g
}

func (w *walk) unset() {
	elem, s := w.elem(), append(noNames()[:2], "a", "b", "c", "B", "_")[w.r.Intn(7)]
	g, was, e := unset(w.t, w.g, elem, s)
	as := name{elem.Kind, elem.N}
	x, is := w.world[as]
	want := api.OK
	if !is {
		want = api.ErrElem
	}
	wantErr(w.t, "Unset", e, want)
	if _, has := x.props[s]; has != was {
		w.t.Fatalf("Unset of %s: %v", s, was)
	}
	delete(x.props, s)
	w.g = g
}

func (w *walk) drop() {
	elem := w.elem()
	g, e := drop(w.t, w.g, elem)
	as := name{elem.Kind, elem.N}
	if _, is := w.world[as]; !is {
		wantErr(w.t, "Drop", e, api.ErrElem)
	} else {
		wantErr(w.t, "Drop", e, api.OK)
	}
	maps.DeleteFunc(w.world, func(x name, it item) bool {
		return x == as || elem.Kind == api.VVertex && x.kind == api.VEdge && (it.out == elem.N || it.in == elem.N)
	})
	w.g = g
}

// P10.4, P10.5, P10.6: calls in any order, with right and with wrong inputs: what comes of them may be, just that has changed, and edges are told both ways.
func TestWalk(t *testing.T) {
	for seed := range int64(12) {
		w := &walk{t: t, r: rand.New(rand.NewSource(seed)), world: map[name]item{}}
		calls := []func(){w.addV, w.addV, w.addE, w.addE, w.addE, w.set, w.set, w.set, w.unset, w.drop}
		for range 250 {
			calls[w.r.Intn(len(calls))]()
			wantWorld(t, "a walk", w.g, w.last, w.world)
		}
		wantBothWays(t, w.g)
	}
}

// P10.4, P10.5: each call of each graph that may be, made once.
func TestEachCallOnce(t *testing.T) {
	for i, g := range may() {
		if g.Last > 1000 {
			continue
		}
		for seed := range int64(20) {
			w := &walk{t: t, r: rand.New(rand.NewSource(seed + int64(20*i))), g: g, last: g.Last, world: world(g)}
			for _, call := range []func(){w.addV, w.addE, w.set, w.unset, w.drop} {
				w.g, w.last, w.world = g, g.Last, world(g)
				call()
				wantWorld(t, "a call", w.g, w.last, w.world)
			}
		}
	}
}

// P10.6: an edge is told by Out of one vertex and In of one, and by no others.
func TestBothWays(t *testing.T) {
	for _, g := range append(may(), full(40, 60)) {
		wantBothWays(t, g)
	}
}

func wantBothWays(t *testing.T, g api.Graph) {
	t.Helper()
	told := map[[3]int64]int{}
	for _, id := range idsIn(g) {
		for _, l := range outOf(t, g, id) {
			told[[3]int64{l.Id, id, 0}]++
			wantSameLink(t, g, l)
		}
		for _, l := range into(t, g, id) {
			told[[3]int64{l.Id, id, 1}]++
			wantSameLink(t, g, l)
		}
	}
	for _, x := range g.E {
		for side, id := range []int64{x.Out, x.In} {
			at := [3]int64{x.Id, id, int64(side)}
			if told[at] != 1 {
				t.Fatalf("%v is told %d times: %s", at, told[at], tell(g))
			}
			delete(told, at)
		}
	}
	if len(told) > 0 {
		t.Fatalf("%v is told of %s", told, tell(g))
	}
}

func wantSameLink(t *testing.T, g api.Graph, l api.Link) {
	t.Helper()
	if x, is := E(g, l.Id); !is || tellLink(x) != tellLink(l) {
		t.Fatalf("%s is told of %s", tellLink(l), tell(g))
	}
}
