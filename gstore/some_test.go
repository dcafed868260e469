package gstore

import (
	"fmt"
	"math"
	"math/rand"
	"slices"
	"strings"
	"testing"

	"ramble/api"
	"ramble/btree"
	"ramble/disk"
	"ramble/graph"
	"ramble/keys"
	"ramble/pager"
	"ramble/value"
)

// v and e are a vertex and an edge with properties, p a property.
func v(id int64, label string, props ...api.Prop) api.Vertex {
	return api.Vertex{Id: id, Label: label, Props: props}
}

func e(id int64, label string, out, in int64, props ...api.Prop) api.Link {
	return api.Link{Id: id, Label: label, Out: out, In: in, Props: props}
}

func p(name string, v api.Value) api.Prop { return api.Prop{Name: name, Value: v} }

// list is a list as it is written, whether it may be or not.
func list(l ...api.Value) api.Value { return api.Value{Kind: api.VList, L: l} }

func many(v api.Value, often int) []api.Value { return slices.Repeat([]api.Value{v}, often) }

func str(s string, length int) api.Value { return value.Str(long(s, length)) }

// long is a text of that many bytes that begins with s; a name, if s is one, and it is short enough.
func long(s string, length int) string { return s + strings.Repeat("_", length-len(s)) }

// alike are values of which several have one sign, and none are the same.
func alike() []api.Value {
	return []api.Value{
		value.Int(1), value.Bool(true), value.Str("1"), value.Str(""), value.Vertex(1), value.Edge(1), value.Int(-1), list(), list(list()),
		value.Str(long("a", 39)), value.Str(long("a", 40)), value.Str(long("a", 128)), value.Str(long("a", 127) + "b"), value.Str(long("a", 39) + "\x00"),
		list(many(value.Int(1), 20)...), list(append(many(value.Int(1), 19), value.Int(2))...), list(many(value.Int(1), 21)...),
		{Kind: api.VMap, L: []api.Value{str("a", 100), value.Int(1)}}, {Kind: api.VMap, L: []api.Value{str("a", 100), value.Int(2)}},
	}
}

// sample is a graph in which edges go to and fro, twice the same way, and from a vertex to itself; labels begin alike, and rise otherwise than ids; values have one sign that are not the same; ids are missing, and the last one that was given is gone.
func sample() api.Graph {
	l := alike()
	return api.Graph{
		V: []api.Vertex{
			v(1, "person", p("age", value.Int(30)), p("name", value.Str("ann"))),
			v(2, "person", p("age", value.Int(30)), p("friends", list(value.Vertex(1), list(value.Edge(5)))), p("name", l[11])),
			v(4, "city", p("name", l[12])),
			v(9, "person_", p("age", value.Int(31)), p("name", l[11])),
			v(14, "a", p("name", l[14])),
		},
		E: []api.Link{
			e(3, "knows", 1, 2, p("age", value.Int(30)), p("since", value.Int(1999))),
			e(5, "knows", 2, 1, p("since", l[15])),
			e(6, "know", 1, 4, p("what", list(value.Str("a")))),
			e(7, "knows", 1, 2, p("since", l[14])),
			e(8, "likes", 2, 2),
			e(10, "a", 1, 1, p("since", l[14])),
			e(11, "know", 1, 2),
			e(12, "knows_", 1, 9),
			e(13, "likes", 9, 14),
		},
		Last: 17,
	}
}

// far is a graph with the greatest ids, the longest names and as many properties as may be.
func far() api.Graph {
	var props []api.Prop
	for i, x := range alike()[:api.MaxProps] {
		props = append(props, p(long(fmt.Sprintf("p%02d", i), api.MaxName), x))
	}
	return api.Graph{
		V:    []api.Vertex{v(1, long("b", api.MaxName), props...), v(api.MaxId-1, long("b", api.MaxName), props...)},
		E:    []api.Link{e(2, "_", api.MaxId-1, 1), e(api.MaxId, long("b", api.MaxName), api.MaxId-1, 1, props...)},
		Last: api.MaxId,
	}
}

// named are that many properties.
func named(many int) []api.Prop {
	var l []api.Prop
	for i := range many {
		l = append(l, p(fmt.Sprintf("p%02d", i), value.Int(int64(i))))
	}
	return l
}

// someGraph is a graph by chance that may be: at most that many vertices and edges, their ids mixed, with some missing.
func someGraph(r *rand.Rand, vertices, edges int) api.Graph {
	g := api.Graph{}
	var ids []int64
	for range vertices + edges {
		g.Last += 1 + int64(r.Intn(3)*r.Intn(2))
		ids = append(ids, g.Last)
	}
	r.Shuffle(len(ids), func(i, j int) { ids[i], ids[j] = ids[j], ids[i] })
	slices.Sort(ids[:vertices])
	slices.Sort(ids[vertices:])
	for _, id := range ids[:vertices] {
		g.V = append(g.V, v(id, someName(r), someProps(r)...))
	}
	for _, id := range ids[vertices:] {
		if vertices > 0 {
			g.E = append(g.E, e(id, someName(r), ids[r.Intn(vertices)], ids[r.Intn(vertices)], someProps(r)...))
		}
	}
	g.Last += int64(r.Intn(3))
	return g
}

func someName(r *rand.Rand) string {
	return []string{"a", "b", "B", "_", "ab", "a1", long("a", 24)}[r.Intn(7)]
}

func someProps(r *rand.Rand) []api.Prop {
	var l []api.Prop
	for _, name := range []string{"B", "_", "a", "a1", "ab", "b"} {
		if r.Intn(3) == 0 {
			l = append(l, p(name, someValue(r)))
		}
	}
	return l
}

// someValue is one of few values, so that elements have the same ones.
func someValue(r *rand.Rand) api.Value {
	l := alike()
	return l[r.Intn(len(l))]
}

// grown is a graph of that many vertices and as many edges, each with a property; the ids of both are mixed. A greater one has all that a smaller one has.
func grown(count int) api.Graph {
	var g api.Graph
	for i := range int64(count) {
		g.V = append(g.V, v(2*i+1, "person", p("age", value.Int(i%7))))
		g.E = append(g.E, e(2*i+2, "knows", 2*(i*i%(i/2+1))+1, 2*i+1, p("since", value.Int(i))))
	}
	g.Last = 2 * int64(count)
	return g
}

// sized is a vertex and an edge of it, whose entry under its id has a value of that many bytes, which is less than one with all properties can have.
func sized(id int64, bytes int) (api.Vertex, api.Link) {
	return v(id, "a", padded(func(l []api.Prop) int { return bytes - len(keys.Vertex(v(id, "a", l...))[0].Val) })...),
		e(id, "a", 1, 1, padded(func(l []api.Prop) int { return bytes - len(keys.Edge(e(id, "a", 1, 1, l...))[0].Val) })...)
}

// padded are properties with which nothing more is missing.
func padded(missing func(l []api.Prop) int) []api.Prop {
	var l []api.Prop
	for missing(l) > 600 {
		l = append(l, p(fmt.Sprintf("p%02d", len(l)), list(many(value.Bool(true), api.MaxList)...)))
	}
	for s := range api.MaxText {
		out := append(l[:len(l):len(l)], p("q", str("", s)), p("r", list()))
		out[len(l)+1].Value = list(many(value.Bool(true), min(max(missing(out), 0)/2, api.MaxList-6))...)
		if missing(out) == 0 {
			return out
		}
	}
	panic("no properties are that long")
}

// mayNot are graphs that may not be.
func mayNot() []api.Graph {
	broken := func(change func(g *api.Graph)) api.Graph {
		g := sample()
		change(&g)
		return g
	}
	return []api.Graph{
		{Last: -1}, {Last: math.MinInt64}, {Last: api.MaxId + 1}, {V: []api.Vertex{v(1, "a")}},
		broken(func(g *api.Graph) { g.Last = 13 }),
		broken(func(g *api.Graph) { g.V[0], g.V[1] = g.V[1], g.V[0] }),
		broken(func(g *api.Graph) { g.E[3].Id = 5 }),
		broken(func(g *api.Graph) { g.E[3].Id = 9 }),
		broken(func(g *api.Graph) { g.V[0].Id = 0 }),
		broken(func(g *api.Graph) { g.V[2].Label = "" }),
		broken(func(g *api.Graph) { g.E[2].Label = long("a", 25) }),
		broken(func(g *api.Graph) { g.E[1].Out = 3 }),
		broken(func(g *api.Graph) { g.E[8].In = 15 }),
		broken(func(g *api.Graph) { g.V[1].Props[0].Name = "b c" }),
		broken(func(g *api.Graph) { g.V[1].Props[0].Name = "z" }),
		broken(func(g *api.Graph) { g.E[0].Props[1].Value = value.Vertex(0) }),
		{V: []api.Vertex{v(1, "a", named(api.MaxProps+1)...)}, Last: 1},
		{V: make([]api.Vertex, api.MaxElems+1), Last: api.MaxId},
	}
}

// tell is all that a graph has as a text, in which nil and empty lists are the same.
func tell(g api.Graph) string {
	var s strings.Builder
	fmt.Fprintf(&s, "last %d\n", g.Last)
	for _, x := range g.V {
		s.WriteString(tellVertex(x))
	}
	for _, x := range g.E {
		s.WriteString(tellLink(x))
	}
	return s.String()
}

func tellVertex(x api.Vertex) string {
	return fmt.Sprintf("v %d %q%s\n", x.Id, x.Label, tellProps(x.Props))
}

func tellLink(x api.Link) string {
	return fmt.Sprintf("e %d %q %d %d%s\n", x.Id, x.Label, x.Out, x.In, tellProps(x.Props))
}

func tellProps(l []api.Prop) string {
	var s strings.Builder
	for _, x := range l {
		fmt.Fprintf(&s, " %q: %s", x.Name, tellValue(x.Value))
	}
	return s.String()
}

// tellValue tells all fields, whatever the kind is.
func tellValue(x api.Value) string {
	s := fmt.Sprintf("(%d %d %q", x.Kind, x.N, x.S)
	for _, y := range x.L {
		s += " " + tellValue(y)
	}
	return s + ")"
}

func want(t testing.TB, what string, got, e api.Errno) {
	t.Helper()
	if got != e {
		t.Fatalf("%s: got the error %d, want %d", what, got, e)
	}
}

func wantText(t testing.TB, what, got, w string) {
	t.Helper()
	if got != w {
		t.Fatalf("%s:\ngot\n%s\nwant\n%s", what, got, w)
	}
}

// rig is a store on a disk of its own.
type rig struct {
	t testing.TB
	d *disk.Disk
	p *pager.Pager
	s *Store
}

// word is the one that a rig's store has.
const word = 2

// newRig is a store with nothing in it, on so many slots and pages.
func newRig(t testing.TB, slots, pages, pool int) *rig {
	t.Helper()
	d, err := disk.New(2 + slots + 4*pages)
	want(t, "New", err, api.OK)
	want(t, "Format", pager.Format(d, slots, pages), api.OK)
	r := &rig{t: t, d: d}
	r.open(pool)
	return r
}

// roomyRig is one on which no Save of the tests' graphs is refused.
func roomyRig(t testing.TB) *rig { return newRig(t, 1000, 250, 240) }

// holding is a store that has a graph.
func holding(t testing.TB, g api.Graph) *rig {
	t.Helper()
	r := roomyRig(t)
	r.save(g)
	return r
}

// open opens the disk anew.
func (r *rig) open(pool int) {
	r.t.Helper()
	p, err := pager.Open(r.d, pool)
	want(r.t, "pager.Open", err, api.OK)
	r.p, r.s = p, storeOf(r.t, p, word)
}

func (r *rig) reopen() {
	r.t.Helper()
	r.open(r.p.Pool())
}

// clone is the same on a disk of its own, opened anew.
func (r *rig) clone() *rig {
	r.t.Helper()
	c := &rig{t: r.t, d: r.d.Clone()}
	c.open(r.p.Pool())
	return c
}

func storeOf(t testing.TB, p *pager.Pager, word int) *Store {
	t.Helper()
	s, err := Open(p, word)
	want(t, "Open", err, api.OK)
	return s
}

// save saves a graph, which goes well.
func (r *rig) save(g api.Graph) {
	r.t.Helper()
	want(r.t, "Save", save(r.t, r.s, g), api.OK)
	if r.p.Staged() != 0 {
		r.t.Fatalf("Save: %d pages are staged", r.p.Staged())
	}
}

// holds is that the store has a graph.
func (r *rig) holds(what string, g api.Graph) {
	r.t.Helper()
	got, err := load(r.t, r.s)
	want(r.t, what+": Load", err, api.OK)
	wantText(r.t, what, got, tell(g))
}

// tree is the tree in which the store's entries stand.
func (r *rig) tree() *btree.Tree {
	r.t.Helper()
	x, err := btree.Open(r.p, word)
	want(r.t, "btree.Open", err, api.OK)
	return x
}

// row is an entry as it can be compared.
type row struct{ key, val string }

func rowOf(x api.Entry) row { return row{string(x.Key), string(x.Val)} }

// rows is what stands in the tree, rising.
func (r *rig) rows() []row {
	r.t.Helper()
	var l []row
	for k, val := range r.tree().All(nil, nil) {
		l = append(l, row{string(k), string(val)})
	}
	return l
}

// rowsOf is the entries of a graph, as the chapter's section 'The form' has them.
func rowsOf(g api.Graph) []row {
	var l []row
	if g.Last != 0 {
		l = append(l, rowOf(keys.Meta(g.Last, len(g.V), len(g.E))))
	}
	for _, x := range g.V {
		for _, y := range keys.Vertex(x) {
			l = append(l, rowOf(y))
		}
	}
	for _, x := range g.E {
		for _, y := range keys.Edge(x) {
			l = append(l, rowOf(y))
		}
	}
	slices.SortFunc(l, func(a, b row) int { return strings.Compare(a.key, b.key) })
	return l
}

// put and take change the tree beside the store; what they change is staged.
func (r *rig) put(x row) {
	r.t.Helper()
	want(r.t, "Put", r.tree().Put([]byte(x.key), []byte(x.val)), api.OK)
}

func (r *rig) take(key string) {
	r.t.Helper()
	if is, err := r.tree().Delete([]byte(key)); !is || err != api.OK {
		r.t.Fatalf("Delete of %q: %v, %d", key, is, err)
	}
}

func (r *rig) commit() {
	r.t.Helper()
	want(r.t, "Commit", r.p.Commit(), api.OK)
}

func (r *rig) abort() {
	r.t.Helper()
	want(r.t, "Abort", r.p.Abort(), api.OK)
}

// image is all that a pager tells: the pages that are not free, the words, how many are staged.
func (r *rig) image() string {
	r.t.Helper()
	var s strings.Builder
	fmt.Fprint(&s, r.p.Left(), r.p.Staged())
	for page := range r.p.Pages() {
		if b, err := r.p.Get(page); err != api.ErrNone {
			fmt.Fprintf(&s, "\n%d %d %s", page, err, b)
		}
	}
	for i := range api.MaxWords {
		n, err := r.p.Word(i)
		fmt.Fprintf(&s, "\nword %d %d", n, err)
	}
	return s.String()
}

// used is how many pages are not free.
func (r *rig) used() int { return r.p.Pages() - 1 - r.p.Left() }

// settled opens the disk anew, so that all stands in the pages' sectors, with nothing in memory.
func (r *rig) settled(pool int) *rig {
	r.t.Helper()
	r.open(pool)
	return r
}

// damage turns bits in one of a page's sectors, in what stays there.
func (r *rig) damage(slots, page, part int) {
	r.t.Helper()
	want(r.t, "Burst", r.d.Burst(2+slots+4*page+part, 100, 1), api.OK)
}

// lose lets the power go, and the pages be asked, so that the pager is broken.
func (r *rig) lose() {
	r.t.Helper()
	want(r.t, "Crash", r.d.Crash(-1), api.OK)
	want(r.t, "Checkpoint", r.p.Checkpoint(), api.ErrDown)
}

// changed is a graph that differs from the sample in all that can be otherwise.
func changed(t testing.TB) api.Graph {
	t.Helper()
	g := sample()
	must := func(h api.Graph, err api.Errno) {
		want(t, "a change", err, api.OK)
		g = h
	}
	must(graph.Drop(g, value.Vertex(4)))
	must(graph.Drop(g, value.Edge(7)))
	must(graph.Set(g, value.Vertex(1), "age", value.Int(31)))
	must(graph.Set(g, value.Vertex(2), "name", alike()[12]))
	must(graph.Set(g, value.Edge(8), "new", list(many(value.Int(7), 100)...)))
	g.E[1].Props = nil
	g.E[2].Label, g.E[2].Out = "other", 14
	g.V = append(g.V, v(20, "city", p("name", alike()[14])))
	g.E = append(g.E, e(21, "knows", 20, 1), e(22, "knows", 1, 20))
	g.Last = 22
	want(t, "graph.Check", graph.Check(g), api.OK)
	return g
}
