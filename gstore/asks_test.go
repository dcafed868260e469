package gstore

import (
	"fmt"
	"iter"
	"math"
	"slices"
	"strings"
	"testing"

	"ramble/api"
	"ramble/graph"
	"ramble/value"
)

// asks is what a store is asked, to hold it against a graph.
type asks struct {
	ids    []int64
	kinds  []int
	labels [][]string
	names  []string
	values []api.Value
}

// few asks for what g has, and a little of what it has not.
func few(g api.Graph) asks {
	a := asks{ids: []int64{0, 1, g.Last, g.Last + 1}, kinds: []int{api.VVertex, api.VEdge}, labels: [][]string{nil}}
	for _, x := range g.V {
		a.add(x.Id, x.Label, x.Props)
	}
	for _, x := range g.E {
		a.add(x.Id, x.Label, x.Props)
	}
	a.ids = compacted(a.ids)
	a.names = compacted(append(a.names, "none"))
	slices.SortFunc(a.labels, slices.Compare[[]string])
	a.labels = slices.CompactFunc(a.labels, slices.Equal[[]string])
	slices.SortFunc(a.values, value.Compare)
	a.values = slices.CompactFunc(a.values, value.Same)
	return a
}

func (a *asks) add(id int64, label string, props []api.Prop) {
	a.ids = append(a.ids, id)
	a.labels = append(a.labels, []string{label})
	for _, x := range props {
		a.names = append(a.names, x.Name)
		a.values = append(a.values, x.Value)
	}
}

func compacted[T int64 | string](l []T) []T {
	slices.Sort(l)
	return slices.Compact(l)
}

// everything asks for all of that, and for whatever may not be.
func everything(g api.Graph) asks {
	a := few(g)
	a.ids = append(a.ids, -1, math.MinInt64, api.MaxId, api.MaxId+1, 2*api.MaxId, math.MaxInt64, math.MinInt64+1)
	a.kinds = append(a.kinds, noKinds()...)
	a.labels = append(a.labels, []string{}, []string{"none"}, []string{"person", "a"}, []string{"knows", "know"}, []string{"likes", "", "9"}, []string{"none", "a"}, []string{"a", "a"})
	for _, s := range noNames() {
		a.labels = append(a.labels, []string{s}, []string{s, "a"}, []string{"a", s})
	}
	a.names = append(a.names, noNames()...)
	a.values = append(a.values, alike()...)
	a.values = append(a.values, badValues()...)
	return a
}

// noKinds are numbers that no element's kind is; some have its lowest byte.
func noKinds() []int {
	return []int{0, api.VInt, api.VMap, 8, -1, 256 + api.VVertex, 256 + api.VEdge, api.VVertex - 256, api.VEdge - 1<<32, math.MinInt, math.MaxInt}
}

// noNames are texts that are no names, the last ones such as may stand in no key.
func noNames() []string {
	return []string{"", "9", "a b", "a\x00", "\x00\x01", "\xff", "a'", long("a", 25), long("a", 128), long("a", 129), strings.Repeat("\x00", 200)}
}

// badValues are values that may not be; some have the sign of one that may.
func badValues() []api.Value {
	return []api.Value{
		{}, {Kind: 8}, {Kind: -1}, {Kind: 256 + api.VInt, N: 1}, {Kind: api.VInt, N: 30, S: "a"}, {Kind: api.VBool, N: 2}, value.Vertex(0), value.Edge(api.MaxId + 1),
		str("a", 129), list(many(value.Int(1), 257)...), list(value.Int(1), api.Value{}), {Kind: api.VMap, L: many(value.Int(1), 1)},
	}
}

// reads holds all that a store tells against what chapter 10 tells of a graph.
func reads(t testing.TB, what string, s *Store, g api.Graph, a asks) {
	t.Helper()
	got, err := load(t, s)
	want(t, what+": Load", err, api.OK)
	wantText(t, what+": Load", got, tell(g))
	counts, err := countsOf(t, s)
	if counts != [3]int64{int64(len(g.V)), int64(len(g.E)), g.Last} || err != api.OK {
		t.Fatalf("%s: Counts: %v, %d", what, counts, err)
	}
	for _, id := range a.ids {
		readsId(t, fmt.Sprintf("%s: %d", what, id), s, g, id, a)
	}
	for _, kind := range a.kinds {
		readsKind(t, fmt.Sprintf("%s: the kind %d", what, kind), s, g, kind, a)
	}
}

func readsId(t testing.TB, what string, s *Store, g api.Graph, id int64, a asks) {
	t.Helper()
	got, err := vertexOf(t, s, id)
	x, is := graph.V(g, id)
	wantText(t, what+": V", fmt.Sprint(got, err), fmt.Sprint(tellVertex(x), errNone(is)))
	got, err = linkOf(t, s, id)
	y, is := graph.E(g, id)
	wantText(t, what+": E", fmt.Sprint(got, err), fmt.Sprint(tellLink(y), errNone(is)))
	for _, labels := range a.labels {
		w := byLabels(graph.Out(g, id, first(labels)...))
		wantTold(t, fmt.Sprintf("%s: Out %q", what, labels), toldWith(t, "Out", outOf(s, id), labels, tellLink), w)
		w = byLabels(graph.In(g, id, first(labels)...))
		wantTold(t, fmt.Sprintf("%s: In %q", what, labels), toldWith(t, "In", inOf(s, id), labels, tellLink), w)
	}
}

func readsKind(t testing.TB, what string, s *Store, g api.Graph, kind int, a asks) {
	t.Helper()
	for _, labels := range a.labels {
		w := texts(graph.All(g, kind, first(labels)...))
		wantTold(t, fmt.Sprintf("%s: All %q", what, labels), toldWith(t, "All", allOf(s, kind), labels, value.Text), w)
	}
	for _, name := range a.names {
		for _, x := range a.values {
			w := texts(graph.Find(g, kind, name, x))
			wantTold(t, fmt.Sprintf("%s: Find %q %s", what, name, tellValue(x)), found(t, s, kind, name, x), w)
		}
	}
}

func errNone(is bool) api.Errno {
	if is {
		return api.OK
	}
	return api.ErrNone
}

// first are the labels that count: the first one of more.
func first(labels []string) []string { return labels[:min(1, len(labels))] }

// byLabels are edges as texts, by labels, and of one label in their order.
func byLabels(seq iter.Seq[api.Link]) []string {
	l := slices.Collect(seq)
	slices.SortStableFunc(l, func(a, b api.Link) int { return strings.Compare(a.Label, b.Label) })
	var out []string
	for _, x := range l {
		out = append(out, tellLink(x))
	}
	return out
}

func texts(seq iter.Seq[api.Value]) []string {
	var l []string
	for x := range seq {
		l = append(l, value.Text(x))
	}
	return l
}

func wantTold(t testing.TB, what string, got, w []string) {
	t.Helper()
	if !slices.Equal(got, w) {
		t.Fatalf("%s: got %q, want %q", what, got, w)
	}
}
