package gstore

import (
	"fmt"
	"slices"
	"testing"

	"ramble/api"
	"ramble/graph"
	"ramble/keys"
	"ramble/value"
)

// isNoStore holds that pages with these entries are no graph: Load and Save answer ErrStore and leave all as it is, staged or not; and whatever else is asked ends.
func (r *rig) isNoStore(what string) {
	r.t.Helper()
	r.refuses(what+", staged", changed(r.t), api.ErrStore)
	r.commit()
	r.refuses(what, changed(r.t), api.ErrStore)
	want(r.t, what+": Save of what may not be", save(r.t, r.s, api.Graph{Last: -1}), api.ErrGraph)
	for id := range int64(25) {
		if _, err := vertexOf(r.t, r.s, id); err != api.OK && err != api.ErrNone && err != api.ErrStore {
			r.t.Fatalf("%s: V: %d", what, err)
		}
		if _, err := linkOf(r.t, r.s, id); err != api.OK && err != api.ErrNone && err != api.ErrStore {
			r.t.Fatalf("%s: E: %d", what, err)
		}
	}
	if _, err := countsOf(r.t, r.s); err != api.OK && err != api.ErrStore {
		r.t.Fatalf("%s: Counts: %d", what, err)
	}
	everyLoop(r.s)
}

// back undoes what was done to the sample's entries.
func (r *rig) back(g api.Graph) {
	r.t.Helper()
	now := map[string]string{}
	for _, x := range r.rows() {
		now[x.key] = x.val
	}
	for _, x := range rowsOf(g) {
		if val, is := now[x.key]; !is || val != x.val {
			r.put(x)
		}
		delete(now, x.key)
	}
	for key := range now {
		r.take(key)
	}
	r.commit()
	r.holds("back", g)
}

// P12.1: one entry is missing, whichever it is.
func TestEntryMissing(t *testing.T) {
	t.Parallel()
	for name, g := range map[string]api.Graph{"sample": sample(), "far": far(), "Last alone": {Last: 3}, "one": {V: []api.Vertex{v(1, "a")}, Last: 1}} {
		r := holding(t, g)
		for _, x := range rowsOf(g) {
			if name == "Last alone" {
				// Without it nothing is there: that is the graph with Last 0.
				r.take(x.key)
				r.holds(name, api.Graph{})
				continue
			}
			r.take(x.key)
			r.isNoStore(fmt.Sprintf("%s without %q", name, x.key))
			r.back(g)
		}
	}
}

// P12.1: one entry is too many.
func TestEntryTooMany(t *testing.T) {
	t.Parallel()
	g := sample()
	r := holding(t, g)
	var l []row
	for _, x := range [][]api.Entry{
		keys.Vertex(v(3, "person", p("age", value.Int(30)))), keys.Vertex(v(16, "person", p("age", value.Int(30)))), keys.Vertex(v(1, "city", p("age", value.Int(31)))), keys.Vertex(v(18, "a")),
		keys.Edge(e(1, "knows", 1, 2, p("age", value.Int(30)))), keys.Edge(e(16, "knows", 1, 2)), keys.Edge(e(3, "likes", 2, 1, p("age", value.Int(1)))), keys.Edge(e(16, "knows", 3, 16)), keys.Edge(e(18, "a", 1, 1)),
	} {
		for _, y := range x {
			if !slices.ContainsFunc(rowsOf(g), func(z row) bool { return z.key == string(y.Key) }) {
				l = append(l, rowOf(y))
			}
		}
	}
	if len(l) < 25 {
		t.Fatalf("%d entries", len(l))
	}
	for kind := range 256 {
		l = append(l, row{string([]byte{byte(kind), 1}), ""})
		if kind != 0 {
			l = append(l, row{string([]byte{byte(kind)}), "\x01"})
		}
	}
	for _, x := range rowsOf(g) {
		l = append(l, row{x.key + "\x00", x.val}, row{x.key + "\xff", ""})
		if n := len(x.key) - 1; n > 0 {
			l = append(l, row{x.key[:n], x.val})
		}
	}
	for _, x := range l {
		r.put(x)
		r.isNoStore(fmt.Sprintf("%q too many", x.key))
		r.take(x.key)
		r.commit()
	}
	r.holds("without it", g)
}

// P12.1: in a tree in which nothing else stands no entry is a graph, but one: Last, of a graph without elements.
func TestEntryAlone(t *testing.T) {
	t.Parallel()
	for _, x := range rowsOf(sample())[1:] {
		r := roomyRig(t)
		r.put(x)
		r.isNoStore(fmt.Sprintf("%q alone", x.key))
	}
	for _, c := range []struct {
		last            int64
		vertices, edges int
		e               api.Errno
	}{
		{1, 0, 0, api.OK}, {api.MaxId, 0, 0, api.OK},
		{0, 0, 0, api.ErrStore}, {1, 1, 0, api.ErrStore}, {1, 0, 1, api.ErrStore}, {0, 1, 1, api.ErrStore}, {api.MaxId + 1, 0, 0, api.ErrStore},
	} {
		r := roomyRig(t)
		r.put(rowOf(keys.Meta(c.last, c.vertices, c.edges)))
		if c.e != api.OK {
			r.isNoStore(fmt.Sprint("the last id alone, ", c))
			continue
		}
		r.holds("the last id alone", api.Graph{Last: c.last})
		r.save(sample())
		r.holds("saved", sample())
	}
}

// P12.1: one entry has another value: each byte another one, one more, one less. Of the sample only Last can be another one, as long as it is not below the ids.
func TestEntryChanged(t *testing.T) {
	t.Parallel()
	g := sample()
	r := holding(t, g)
	for _, x := range rowsOf(g) {
		var l []string
		for i := range len(x.val) + 1 {
			l = append(l, x.val[:i], x.val[:i]+"\x00"+x.val[i:], x.val[:i]+"a"+x.val[i:])
			if i < len(x.val) {
				l = append(l, x.val[:i]+string([]byte{x.val[i] ^ 1})+x.val[i+1:], x.val[:i]+string([]byte{x.val[i] + 1})+x.val[i+1:], x.val[:i]+x.val[i+1:])
			}
		}
		for _, val := range l {
			if val == x.val {
				continue
			}
			r.put(row{x.key, val})
			what := fmt.Sprintf("%q with %q", x.key, val)
			if y, isOther := otherGraph(g, row{x.key, val}); isOther {
				r.holds(what, y)
				r.abort()
				continue
			}
			if _, err := load(t, r.s); err != api.ErrStore {
				t.Fatalf("%s: Load: %d", what, err)
			}
			r.abort()
		}
	}
	r.holds("aborted", g)
}

// otherGraph is the graph that has the entries of g with another one in the place of that with its key, if there is one: one with another Last, or in which a property has another value of the same sign.
func otherGraph(g api.Graph, x row) (api.Graph, bool) {
	h := graph.Clone(g)
	entry := api.Entry{Key: []byte(x.key), Val: []byte(x.val)}
	if last, _, _, err := keys.ParseMeta(entry); err == api.OK {
		h.Last = last
	}
	if y, err := keys.ParseV(entry); err == api.OK {
		i := slices.IndexFunc(h.V, func(z api.Vertex) bool { return z.Id == y.Id })
		h.V[i].Props = y.Props
	}
	if y, err := keys.ParseE(entry); err == api.OK {
		i := slices.IndexFunc(h.E, func(z api.Link) bool { return z.Id == y.Id })
		h.E[i].Props = y.Props
	}
	if graph.Check(h) != api.OK {
		return h, false
	}
	w := rowsOf(g)
	for i := range w {
		if w[i].key == x.key {
			w[i].val = x.val
		}
	}
	return h, slices.Equal(rowsOf(h), w)
}

// P12.1: all entries of a graph that may not be are there, and nothing else.
func TestEntriesOfNoGraph(t *testing.T) {
	t.Parallel()
	for i, g := range []api.Graph{
		{V: []api.Vertex{v(1, "a")}, E: []api.Link{e(2, "a", 1, 3)}, Last: 3},
		{V: []api.Vertex{v(1, "a")}, E: []api.Link{e(2, "a", 3, 1)}, Last: 3},
		{V: []api.Vertex{v(1, "a")}, E: []api.Link{e(1, "a", 1, 1)}, Last: 3},
		{V: []api.Vertex{v(1, "a"), v(4, "a")}, Last: 3},
		{V: []api.Vertex{v(1, "a")}, E: []api.Link{e(4, "a", 1, 1)}, Last: 3},
		{E: []api.Link{e(2, "a", 1, 1)}, Last: 3},
		{V: []api.Vertex{v(1, "")}, Last: 3},
		{V: []api.Vertex{v(1, "9")}, Last: 3},
		{V: []api.Vertex{v(1, "a", p("", value.Int(1)))}, Last: 3},
		{V: []api.Vertex{v(1, "a", p("b", value.Int(1)), p("a", value.Int(1)))}, Last: 3},
		{V: []api.Vertex{v(1, "a", p("a", value.Vertex(0)))}, Last: 3},
		{V: []api.Vertex{v(1, "a")}, Last: 0},
		{V: []api.Vertex{v(1, "a")}, Last: api.MaxId + 1},
	} {
		r := roomyRig(t)
		if graph.Check(g) != api.ErrGraph {
			t.Fatalf("the graph %d may be", i)
		}
		for _, x := range rowsOf(g) {
			r.put(x)
		}
		if g.Last == 0 {
			r.put(rowOf(keys.Meta(0, 1, 0)))
		}
		r.isNoStore(fmt.Sprint("the graph ", i))
	}
}

// P12.3: an entry that says no vertex, no edge, or no counts is ErrStore of those who read it, and of nobody else; a loop ends there.
func TestEntryReadAlone(t *testing.T) {
	g := sample()
	r := holding(t, g)
	for _, val := range []string{"", "\x00", "\x01", "\x06person", "\x06person\x01\x03age", "\x06person\x00\x00", "\x069erson\x00"} {
		r.put(row{string(keys.Key(value.Vertex(2))), val})
		_, err := vertexOf(t, r.s, 2)
		want(t, "V", err, api.ErrStore)
		_, err = vertexOf(t, r.s, 1)
		want(t, "V of another one", err, api.OK)
		_, err = linkOf(t, r.s, 3)
		want(t, "E", err, api.OK)
		wantTold(t, "All", texts(r.s.All(api.VVertex)), []string{"v[1]"})
		wantTold(t, "All person", texts(r.s.All(api.VVertex, "person")), []string{"v[1]", "v[2]"})
		wantTold(t, "Find", texts(r.s.Find(api.VVertex, "age", value.Int(30))), []string{"v[1]"})
		wantTold(t, "Out", byLabels(r.s.Out(2)), []string{tellLink(g.E[1]), tellLink(g.E[4])})
		r.abort()

		r.put(row{string(keys.Key(value.Edge(3))), val})
		_, err = linkOf(t, r.s, 3)
		want(t, "E", err, api.ErrStore)
		_, err = linkOf(t, r.s, 5)
		want(t, "E of another one", err, api.OK)
		wantTold(t, "All", texts(r.s.All(api.VEdge)), nil)
		wantTold(t, "Out", byLabels(r.s.Out(1)), []string{tellLink(g.E[5]), tellLink(g.E[2]), tellLink(g.E[6])})
		wantTold(t, "In", byLabels(r.s.In(2, "knows")), nil)
		r.abort()
	}
	for _, val := range []string{"", "\x01", "\x01\x00", "\x11\x05\x09\x00", "\x80\x00\x05\x09", "\x11\x81\x10\x09"} {
		r.put(row{"\x00", val})
		_, err := countsOf(t, r.s)
		want(t, "Counts", err, api.ErrStore)
		_, err = vertexOf(t, r.s, 2)
		want(t, "V", err, api.OK)
		r.abort()
	}
	r.holds("at last", g)
}

// P12.3: where an entry of an index says nothing, or names what there is not, a loop ends.
func TestIndexReadAlone(t *testing.T) {
	g := sample()
	l := keys.Edge(g.E[0])
	cases := []struct {
		key, val string
		what     string
		told     func(s *Store) []string
		want     []string
	}{
		{string(l[1].Key), "", "Out", func(s *Store) []string { return byLabels(s.Out(1, "knows")) }, nil},
		{string(l[2].Key), "\x00", "In", func(s *Store) []string { return byLabels(s.In(2)) }, []string{tellLink(g.E[6])}},
		{string(l[3].Key), "a", "All", func(s *Store) []string { return texts(s.All(api.VEdge, "knows")) }, nil},
		{string(l[4].Key), "a", "Find", func(s *Store) []string { return texts(s.Find(api.VEdge, "age", value.Int(30))) }, nil},
		{string(keys.Edge(e(4, "knows", 1, 2))[1].Key), "\x02", "Out of one that is not there", func(s *Store) []string { return byLabels(s.Out(1, "knows")) }, []string{tellLink(g.E[0])}},
		{string(keys.Edge(e(4, "knows", 1, 2))[2].Key), "\x01", "In of one that is not there", func(s *Store) []string { return byLabels(s.In(2, "knows")) }, []string{tellLink(g.E[0])}},
		{string(keys.Vertex(v(3, "a", p("age", value.Int(31))))[2].Key), "", "Find of one that is not there", func(s *Store) []string { return texts(s.Find(api.VVertex, "age", value.Int(31))) }, nil},
	}
	for _, c := range cases {
		r := holding(t, g)
		r.put(row{c.key, c.val})
		wantTold(t, c.what, c.told(r.s), c.want)
	}
}
