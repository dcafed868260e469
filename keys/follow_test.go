package keys

import (
	"bytes"
	"fmt"
	"math/rand"
	"testing"

	"ramble/api"
	"ramble/graph"
	"ramble/value"
)

// P11.3: from the entries of an element come the element, and its ends.
func TestThereAndBack(t *testing.T) {
	for _, x := range vertices() {
		l := vertex(t, x)
		if got, err := parseV(t, l[0]); err != api.OK || !sameVertex(got, x) {
			t.Fatalf("ParseV of %v: %v, %d", x, got, err)
		}
		for _, y := range l[1:] {
			wantElemOf(t, y, value.Vertex(x.Id), 0, api.OK)
		}
	}
	for _, x := range links() {
		l := edge(t, x)
		if got, err := parseE(t, l[0]); err != api.OK || !sameLink(got, x) {
			t.Fatalf("ParseE of %v: %v, %d", x, got, err)
		}
		wantElemOf(t, l[1], value.Edge(x.Id), x.In, api.OK)
		wantElemOf(t, l[2], value.Edge(x.Id), x.Out, api.OK)
		for _, y := range l[3:] {
			wantElemOf(t, y, value.Edge(x.Id), 0, api.OK)
		}
	}
}

// graphs are graphs that may be, in which labels, names and values are such as begin alike.
func graphs(t *testing.T) []api.Graph {
	t.Helper()
	r := rand.New(rand.NewSource(13))
	labels := []string{"a", "aa", "a_", "b", long("a", 23), long("a", 24)}
	values := []api.Value{
		value.Int(1), value.Int(256), value.Str("1"), value.Str("a"), value.Str("aa"), value.Str("a\x00"), value.Bool(true), list(), list(value.Int(1)), dict(), value.Vertex(1), value.Edge(1),
		str("a", 38), str("a", 39), str("a", 128), str("\x00", 128), list(many(value.Bool(true), 20)...), list(append(many(value.Bool(true), 19), value.Int(1))...), within(str("a", 128), 7),
	}
	var l []api.Graph
	for range 60 {
		g := api.Graph{}
		some := func() []api.Prop {
			props := named(labels[r.Intn(len(labels))][:1], r.Intn(4))
			for i := range props {
				props[i].Value = values[r.Intn(len(values))]
			}
			return props
		}
		for range 1 + r.Intn(8) {
			g.Last += 1 + r.Int63n(200)*r.Int63n(2)
			g.V = append(g.V, v(g.Last, labels[r.Intn(len(labels))], some()...))
		}
		for range r.Intn(12) {
			g.Last += 1 + r.Int63n(3)
			g.E = append(g.E, e(g.Last, labels[r.Intn(len(labels))], g.V[r.Intn(len(g.V))].Id, g.V[r.Intn(len(g.V))].Id, some()...))
		}
		if graph.Check(g) != api.OK {
			t.Fatalf("a graph may not be: %v", g)
		}
		l = append(l, g)
	}
	wide := api.Graph{V: []api.Vertex{v(far-1, long("b", 24), named(long("z", 22), 16)...)}, E: []api.Link{e(far, long("c", 24), far-1, far-1, named(long("y", 22), 16)...)}, Last: far}
	for i := range wide.V[0].Props {
		wide.V[0].Props[i].Value, wide.E[0].Props[i].Value = values[i], values[len(values)-1-i]
	}
	if graph.Check(wide) != api.OK {
		t.Fatal("the wide graph may not be")
	}
	return append(l, wide)
}

// item is an element of a graph, and its entries.
type item struct {
	elem    api.Value
	entries []api.Entry
}

func items(g api.Graph) []item {
	var l []item
	for _, x := range g.V {
		l = append(l, item{value.Vertex(x.Id), Vertex(x)})
	}
	for _, x := range g.E {
		l = append(l, item{value.Edge(x.Id), Edge(x)})
	}
	return l
}

// P11.4: no two entries have one key, and each key fits into a tree.
func TestApart(t *testing.T) {
	for _, g := range graphs(t) {
		seen := map[string]api.Value{string(Meta(g.Last, len(g.V), len(g.E)).Key): {}}
		for _, x := range items(g) {
			for _, y := range x.entries {
				if other, is := seen[string(y.Key)]; is {
					t.Fatalf("%v and %v have the key %v", x.elem, other, y.Key)
				}
				if seen[string(y.Key)] = x.elem; len(y.Key) < 1 || len(y.Key) > api.MaxKey {
					t.Fatalf("%v has a key of %d bytes", x.elem, len(y.Key))
				}
			}
		}
	}
}

// P11.4: whatever elements with unlike ids have, no entry of the one has a key of the other's.
func TestApartOfAny(t *testing.T) {
	var l []item
	for _, id := range []int64{7, 8, 263, far} {
		for _, x := range append(oddVertices(), v(0, "a"), v(0, "b", named("b", 3)...)) {
			x.Id = id
			l = append(l, item{value.Vertex(id), Vertex(x)}, item{value.Edge(id), Edge(e(id, x.Label, 7, 8, x.Props...))})
		}
	}
	seen := map[string]int64{}
	for _, x := range l {
		for _, y := range x.entries {
			if id, is := seen[string(y.Key)]; is && id != x.elem.N {
				t.Fatalf("%d and %d have the key %v", id, x.elem.N, y.Key)
			}
			seen[string(y.Key)] = x.elem.N
		}
	}
}

// P11.4: the longest keys of all have room.
func TestLongestKey(t *testing.T) {
	long := e(far, long("c", 24), far, far, p(long("y", 24), str("a", 128)))
	want := []int{10, 9 + 1 + 27 + 9, 9 + 1 + 27 + 9, 2 + 27 + 9, 2 + 27 + 41 + 9}
	for i, x := range Edge(long) {
		if len(x.Key) != want[i] {
			t.Errorf("the longest key %d has %d bytes, want %d", i, len(x.Key), want[i])
		}
	}
}

// under are the elements of a graph with a key that begins so.
func under(g api.Graph, begin []byte) string {
	var l []api.Value
	for _, x := range items(g) {
		for _, y := range x.entries {
			if bytes.HasPrefix(y.Key, begin) {
				l = append(l, x.elem)
			}
		}
	}
	return tellElems(l)
}

func tellElems(l []api.Value) string {
	var s string
	for _, x := range l {
		s += value.Text(x) + " "
	}
	return s
}

func linksTold(l func(yield func(api.Link) bool)) string {
	var elems []api.Value
	for x := range l {
		elems = append(elems, value.Edge(x.Id))
	}
	return tellElems(elems)
}

func valuesTold(l func(yield func(api.Value) bool)) string {
	var elems []api.Value
	for x := range l {
		elems = append(elems, x)
	}
	return tellElems(elems)
}

func wantUnder(t *testing.T, g api.Graph, what string, begin []byte, want string) {
	t.Helper()
	if got := under(g, begin); got != want {
		t.Fatalf("under %s in %v: %s, want %s", what, g, got, want)
	}
}

// P11.5: the keys that begin with Out, In, Label and Prop are those of the elements of which the graph tells it, each once.
func TestTogether(t *testing.T) {
	for _, g := range graphs(t) {
		labels := []string{"a", "aa", "a_", "b", "none", long("a", 23), long("a", 24), long("b", 24), long("c", 24)}
		for _, x := range items(g) {
			id := x.elem.N
			wantUnder(t, g, "Key", Key(x.elem), tellElems([]api.Value{x.elem}))
			wantUnder(t, g, "Out", Out(id), linksTold(graph.Out(g, id)))
			wantUnder(t, g, "In", In(id), linksTold(graph.In(g, id)))
			for _, label := range labels {
				wantUnder(t, g, "Out of "+label, Out(id, label), linksTold(graph.Out(g, id, label)))
				wantUnder(t, g, "In of "+label, In(id, label), linksTold(graph.In(g, id, label)))
			}
		}
		for _, kind := range []int{api.VVertex, api.VEdge} {
			wantUnder(t, g, "Label", Label(kind), valuesTold(graph.All(g, kind)))
			for _, label := range labels {
				wantUnder(t, g, "Label of "+label, Label(kind, label), valuesTold(graph.All(g, kind, label)))
			}
			wantPropsTogether(t, g, kind)
		}
	}
}

// wantPropsTogether holds Prop of a kind against each property that an element of a graph has.
func wantPropsTogether(t *testing.T, g api.Graph, kind int) {
	t.Helper()
	for _, x := range items(g) {
		for _, y := range graph.Props(g, x.elem) {
			var named, valued []api.Value
			for other := range graph.All(g, kind) {
				v, is := graph.Prop(g, other, y.Name)
				if is {
					named = append(named, other)
				}
				if is && signOf(v) == signOf(y.Value) {
					valued = append(valued, other)
				}
			}
			what := fmt.Sprintf("Prop of %s %s", y.Name, value.Text(y.Value))
			wantUnder(t, g, "Prop of "+y.Name, Prop(kind, y.Name), tellElems(named))
			wantUnder(t, g, what, Prop(kind, y.Name, y.Value), tellElems(valued))
		}
	}
}

// P11.5: also the keys of an edge whose label has no form begin with Out and In.
func TestTogetherOfAny(t *testing.T) {
	for _, x := range append(links(), oddLinks()...) {
		l := Edge(x)
		for i, begin := range [][]byte{Out(x.Out), In(x.In), Out(x.Out, x.Label), In(x.In, x.Label)} {
			if !bytes.HasPrefix(l[1+i%2].Key, begin) {
				t.Fatalf("%v does not begin with %v", l[1+i%2].Key, begin)
			}
		}
		for i, begin := range [][]byte{Label(api.VEdge), Label(api.VEdge, x.Label)} {
			if !bytes.HasPrefix(l[3].Key, begin) {
				t.Fatalf("%v does not begin with %v, %d", l[3].Key, begin, i)
			}
		}
		for i, y := range x.Props {
			if !bytes.HasPrefix(l[4+i].Key, Prop(api.VEdge, y.Name)) || !bytes.HasPrefix(l[4+i].Key, Prop(api.VEdge, y.Name, y.Value)) {
				t.Fatalf("%v does not begin with Prop of %v", l[4+i].Key, y)
			}
		}
	}
}
