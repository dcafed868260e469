package gstore

import (
	"testing"

	"ramble/api"
	"ramble/graph"
	"ramble/value"
)

// P12.3, P12.4: the chapter's example, and what is read of a small graph, written out.
func TestExample(t *testing.T) {
	r := roomyRig(t)
	g := api.Graph{V: []api.Vertex{v(1, "person"), v(2, "person", p("age", value.Int(30)))}, E: []api.Link{e(3, "knows", 1, 2)}, Last: 3}
	r.save(g)
	wantTold(t, "Out", toldWith(t, "Out", outOf(r.s, 1), nil, tellLink), []string{"e 3 \"knows\" 1 2\n"})
	wantTold(t, "In", toldWith(t, "In", inOf(r.s, 2), []string{"knows"}, tellLink), []string{"e 3 \"knows\" 1 2\n"})
	wantTold(t, "All", toldWith(t, "All", allOf(r.s, api.VVertex), nil, value.Text), []string{"v[1]", "v[2]"})
	wantTold(t, "Find", found(t, r.s, api.VVertex, "age", value.Int(30)), []string{"v[2]"})
	if x, err := r.s.V(2); err != api.OK || tellVertex(x) != "v 2 \"person\" \"age\": (1 30 \"\")\n" {
		t.Errorf("V: %v, %d", x, err)
	}
	r.save(api.Graph{})
	if r.used() != 0 {
		t.Errorf("%d pages are in use", r.used())
	}
}

// P12.3: edges of one vertex by labels, then by ids; of more labels those with the first one.
func TestByLabels(t *testing.T) {
	s := holding(t, sample()).s
	for _, c := range []struct {
		what string
		ask  way[api.Link]
		with []string
		want []int64
	}{
		{"Out", outOf(s, 1), nil, []int64{10, 6, 11, 3, 7, 12}},
		{"Out", outOf(s, 1), []string{}, []int64{10, 6, 11, 3, 7, 12}},
		{"Out", outOf(s, 1), []string{"knows"}, []int64{3, 7}},
		{"Out", outOf(s, 1), []string{"know"}, []int64{6, 11}},
		{"Out", outOf(s, 1), []string{"knows_"}, []int64{12}},
		{"Out", outOf(s, 1), []string{"know", "knows"}, []int64{6, 11}},
		{"Out", outOf(s, 1), []string{"knows", "know"}, []int64{3, 7}},
		{"Out", outOf(s, 1), []string{"kno"}, nil},
		{"Out", outOf(s, 1), []string{"", "knows"}, nil},
		{"Out", outOf(s, 2), nil, []int64{5, 8}},
		{"Out", outOf(s, 4), nil, nil},
		{"Out", outOf(s, 3), nil, nil},
		{"In", inOf(s, 2), nil, []int64{11, 3, 7, 8}},
		{"In", inOf(s, 2), []string{"likes", "knows"}, []int64{8}},
		{"In", inOf(s, 1), nil, []int64{10, 5}},
		{"In", inOf(s, 3), nil, nil},
	} {
		var ids []int64
		for l := range c.ask(c.with...) {
			ids = append(ids, l.Id)
		}
		if len(ids) != len(c.want) {
			t.Fatalf("%s %q: %d, want %d", c.what, c.with, ids, c.want)
		}
		for i := range ids {
			if ids[i] != c.want[i] {
				t.Errorf("%s %q: %d, want %d", c.what, c.with, ids, c.want)
			}
		}
	}
}

// P12.3: elements rise by ids, also where their labels do not.
func TestByIds(t *testing.T) {
	s := holding(t, sample()).s
	wantTold(t, "All", texts(s.All(api.VVertex)), []string{"v[1]", "v[2]", "v[4]", "v[9]", "v[14]"})
	wantTold(t, "All", texts(s.All(api.VEdge)), []string{"e[3]", "e[5]", "e[6]", "e[7]", "e[8]", "e[10]", "e[11]", "e[12]", "e[13]"})
	wantTold(t, "All person", texts(s.All(api.VVertex, "person")), []string{"v[1]", "v[2]"})
	wantTold(t, "All person and a", texts(s.All(api.VVertex, "person", "a")), []string{"v[1]", "v[2]"})
	wantTold(t, "All knows", texts(s.All(api.VEdge, "knows")), []string{"e[3]", "e[5]", "e[7]"})
	wantTold(t, "All a", texts(s.All(api.VEdge, "a")), []string{"e[10]"})
}

// P12.3: of values that have one sign just those are found that are the same.
func TestOneSign(t *testing.T) {
	s := holding(t, sample()).s
	l := alike()
	wantTold(t, "a text", found(t, s, api.VVertex, "name", l[11]), []string{"v[2]", "v[9]"})
	wantTold(t, "another one", found(t, s, api.VVertex, "name", l[12]), []string{"v[4]"})
	wantTold(t, "a list", found(t, s, api.VEdge, "since", l[14]), []string{"e[7]", "e[10]"})
	wantTold(t, "another list", found(t, s, api.VEdge, "since", l[15]), []string{"e[5]"})
	wantTold(t, "a number", found(t, s, api.VVertex, "age", value.Int(30)), []string{"v[1]", "v[2]"})
	wantTold(t, "of the other kind", found(t, s, api.VEdge, "age", value.Int(30)), []string{"e[3]"})
}

// P12.3: the name counts, not only the value behind one of that name.
func TestFindTakesItsName(t *testing.T) {
	s := holding(t, api.Graph{V: []api.Vertex{v(1, "a", p("a", value.Int(1)), p("b", value.Int(2))), v(2, "a", p("a", value.Int(2)), p("b", value.Int(1)))}, Last: 2}).s
	wantTold(t, "a 1", found(t, s, api.VVertex, "a", value.Int(1)), []string{"v[1]"})
	wantTold(t, "b 1", found(t, s, api.VVertex, "b", value.Int(1)), []string{"v[2]"})
	long1, long2 := alike()[11], alike()[12]
	s = holding(t, api.Graph{V: []api.Vertex{v(1, "a", p("a", long1), p("b", long2))}, Last: 1}).s
	wantTold(t, "a long1", found(t, s, api.VVertex, "a", long1), []string{"v[1]"})
	wantTold(t, "a long2", found(t, s, api.VVertex, "a", long2), nil)
	wantTold(t, "b long1", found(t, s, api.VVertex, "b", long1), nil)
}

// edgeGraphs are the graphs that the chapters and the limits name.
func edgeGraphs(t testing.TB) map[string]api.Graph {
	t.Helper()
	return map[string]api.Graph{
		"empty":              {},
		"empty lists":        {V: []api.Vertex{}, E: []api.Link{}},
		"Last alone":         {Last: 1},
		"the greatest Last":  {Last: api.MaxId},
		"one vertex":         {V: []api.Vertex{v(1, "a")}, Last: 1},
		"a loop":             {V: []api.Vertex{v(2, "a")}, E: []api.Link{e(1, "a", 2, 2)}, Last: 2},
		"sample":             sample(),
		"changed":            changed(t),
		"far":                far(),
		"ids of many bytes":  {V: []api.Vertex{v(255, "a"), v(256, "a"), v(1<<32, "a")}, E: []api.Link{e(127, "a", 255, 256), e(128, "a", 256, 255), e(1<<16, "a", 1<<32, 1<<32)}, Last: 1 << 40},
		"long values beside": {V: []api.Vertex{v(1, "a", p("a", list(many(value.Str(long("b", 128)), 20)...))), v(2, "a", p("a", value.Int(1)))}, Last: 2},
	}
}

// P12.3, P12.4: whatever is asked, what is read is what chapter 10 tells; of what may not be, nothing, or ErrNone.
func TestReads(t *testing.T) {
	for name, g := range edgeGraphs(t) {
		t.Run(name, func(t *testing.T) {
			t.Parallel()
			want(t, "graph.Check", graph.Check(g), api.OK)
			r := holding(t, g)
			before := r.image()
			reads(t, "saved", r.s, g, everything(g))
			if r.image() != before {
				t.Error("reading has changed the pages")
			}
			r.open(api.MinPool)
			reads(t, "opened anew", r.s, g, everything(g))
		})
	}
}

// R1: an id that no element may have is ErrNone, also where the pages can't be read any more; of one that may be, nobody knows.
func TestNoIdAheadOfPages(t *testing.T) {
	r := holding(t, sample())
	r.lose()
	for _, id := range []int64{0, -1, api.MaxId + 1} {
		_, err := vertexOf(t, r.s, id)
		want(t, "V", err, api.ErrNone)
		_, err = linkOf(t, r.s, id)
		want(t, "E", err, api.ErrNone)
	}
	for _, id := range []int64{1, 3, 17, 18, api.MaxId} {
		_, err := vertexOf(t, r.s, id)
		want(t, "V", err, api.ErrBroken)
		_, err = linkOf(t, r.s, id)
		want(t, "E", err, api.ErrBroken)
	}
}
