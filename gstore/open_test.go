package gstore

import (
	"fmt"
	"math"
	"slices"
	"testing"

	"ramble/api"
	"ramble/btree"
	"ramble/keys"
	"ramble/node"
	"ramble/pager"
	"ramble/value"
)

// P12.1, R1: Open's errors are those of btree.Open, in its order; with one there is no store.
func TestOpenErrors(t *testing.T) {
	r := roomyRig(t)
	broken := roomyRig(t)
	broken.lose()
	for _, c := range []struct {
		what string
		p    *pager.Pager
		word int
		e    api.Errno
	}{
		{"nil", nil, 0, api.ErrMade},
		{"nil and a word that is none", nil, -1, api.ErrMade},
		{"zero", new(pager.Pager), 3, api.ErrMade},
		{"a word below", r.p, -1, api.ErrArg},
		{"a word above", r.p, api.MaxWords, api.ErrArg},
		{"the least word", r.p, math.MinInt, api.ErrArg},
		{"the greatest word", r.p, math.MaxInt, api.ErrArg},
		{"broken and a word that is none", broken.p, api.MaxWords, api.ErrArg},
		{"broken", broken.p, 0, api.ErrBroken},
	} {
		if s, err := Open(c.p, c.word); s != nil || err != c.e {
			t.Errorf("%s: %v, %d; want %d", c.what, s != nil, err, c.e)
		}
	}
}

// P12.1: each word has a graph of its own, and a store keeps nothing of it: another one of the word sees what was saved.
func TestWords(t *testing.T) {
	r := roomyRig(t)
	graphs := []api.Graph{sample(), {Last: 7}, far(), {}}
	for word, g := range graphs {
		want(t, "Save", save(t, storeOf(t, r.p, word), g), api.OK)
	}
	graphs[1], graphs[2] = changed(t), graphs[1]
	other := storeOf(t, r.p, 1)
	for _, word := range []int{1, 2} {
		want(t, "Save", save(t, storeOf(t, r.p, word), graphs[word]), api.OK)
	}
	wantLoad := func(s *Store, g api.Graph) {
		t.Helper()
		got, err := load(t, s)
		want(t, "Load", err, api.OK)
		wantText(t, "Load", got, tell(g))
	}
	wantLoad(other, graphs[1])
	r.reopen()
	for word, g := range graphs {
		wantLoad(storeOf(t, r.p, word), g)
	}
	want(t, "SetWord", r.p.SetWord(3, must(r.p.Word(0))), api.OK)
	wantLoad(storeOf(t, r.p, 3), graphs[0])
}

func must(n int64, err api.Errno) int64 {
	if err != api.OK {
		panic(err)
	}
	return n
}

// P12.1: what stands in the tree is just the entries of the chapter's form.
func TestForm(t *testing.T) {
	for name, g := range edgeGraphs(t) {
		r := holding(t, g)
		if got := r.rows(); !slices.Equal(got, rowsOf(g)) {
			t.Errorf("%s: got %q, want %q", name, got, rowsOf(g))
		}
	}
	r := holding(t, api.Graph{V: []api.Vertex{v(1, "a")}, Last: 5})
	if l := r.rows(); len(l) != 3 || l[0] != (row{"\x00", "\x05\x01\x00"}) || l[1] != (row{"\x01\x06\x80\x00\x00\x00\x00\x00\x00\x01", "\x01a\x00"}) {
		t.Errorf("%q", l)
	}
}

// P12.1: a graph whose entries were put there by others is the graph; they may be staged alone.
func TestLoadOfEntries(t *testing.T) {
	t.Parallel()
	for name, g := range edgeGraphs(t) {
		r := roomyRig(t)
		for _, x := range rowsOf(g) {
			r.put(x)
		}
		r.holds(name+", staged", g)
		r.commit()
		r.reopen()
		reads(t, name, r.s, g, few(g))
	}
}

// noPages are pages that no tree are, and what must be changed in the store's pages for that.
func noPages(t testing.TB) map[string]func(r *rig) {
	t.Helper()
	root := func(n int64) func(r *rig) {
		return func(r *rig) { want(t, "SetWord", r.p.SetWord(word, n), api.OK) }
	}
	set := func(b []byte) func(r *rig) {
		return func(r *rig) { want(t, "Set", r.p.Set(int(must(r.p.Word(word))), b), api.OK) }
	}
	form := func(n api.Node) []byte {
		b, err := node.Bytes(n)
		want(t, "node.Bytes", err, api.OK)
		return b
	}
	return map[string]func(r *rig){
		"a root that is free":    root(249),
		"a root that no page is": root(250),
		"a root beyond all":      root(api.MaxPages),
		"a root below 0":         root(-1),
		"a root of all bits":     root(math.MaxInt64),
		"a root that is no node": set([]byte("no node")),
		"a root of no bytes":     set(nil),
		"an empty leaf":          set(form(api.Node{Leaf: true})),
		"a node of one kid":      set(form(api.Node{Kids: []int{2}})),
		"a node of itself": func(r *rig) {
			n := int(must(r.p.Word(word)))
			set(form(api.Node{Keys: [][]byte{{1}}, Kids: []int{n, n}}))(r)
		},
		"a kid that is free":         set(form(api.Node{Keys: [][]byte{{1}}, Kids: []int{248, 249}})),
		"a value that is not there":  set(form(api.Node{Leaf: true, Cells: []api.Cell{{Key: []byte{0}, Over: 249, Len: 100}}})),
		"a value longer than may be": set(form(api.Node{Leaf: true, Cells: []api.Cell{{Key: []byte{0}, Over: 2, Len: 5000}}})),
	}
}

// P12.1: where the pages are no tree, Load, and Save with it, answer ErrTree.
func TestNoTree(t *testing.T) {
	for name, change := range noPages(t) {
		r := holding(t, sample())
		change(r)
		r.commit()
		r.reopen()
		r.refuses(name, sample(), api.ErrTree)
	}
}

// refuses holds that Load and Save answer an error, and leave all as it is.
func (r *rig) refuses(what string, g api.Graph, e api.Errno) {
	r.t.Helper()
	before := r.image()
	_, err := load(r.t, r.s)
	want(r.t, what+": Load", err, e)
	want(r.t, what+": Save", save(r.t, r.s, g), e)
	if r.image() != before {
		r.t.Fatalf("%s: the pages have changed", what)
	}
}

// P12.1: damage to any of the pages is Load's error, whatever else stands there; what is read tells the right thing, or the error, or ends.
func TestDamage(t *testing.T) {
	t.Parallel()
	const slots, pages = 400, 60
	intact := holding(t, sample()).s
	for _, wrong := range []bool{false, true} {
		r := newRig(t, slots, pages, 50)
		r.save(sample())
		e := api.OK
		if wrong {
			// What is wrong is told by the first and by the last entry.
			r.put(row{"\x00\x00", ""})
			r.put(row{"\xff", "none"})
			r.commit()
			e = api.ErrStore
		}
		r.settled(api.MinPool)
		_, err := load(t, r.s)
		want(t, "Load", err, e)
		used := r.used()
		if used < 8 {
			t.Fatalf("%d pages are in use", used)
		}
		for page := 1; page <= used; page++ {
			for part := range 4 {
				c := r.clone()
				c.damage(slots, page, part)
				c.refuses(fmt.Sprintf("page %d, part %d", page, part), changed(t), api.ErrDamage)
				c.readsOrEnds(intact, sample(), api.ErrDamage)
			}
		}
	}
}

// readsOrEnds holds that what is read is what an intact store reads, or the error e, and that what is told is all, or the first ones.
func (r *rig) readsOrEnds(intact *Store, g api.Graph, e api.Errno) {
	r.t.Helper()
	for _, x := range g.V {
		if got, err := vertexOf(r.t, r.s, x.Id); err != e && (err != api.OK || got != tellVertex(x)) {
			r.t.Fatalf("V(%d): %s, %d", x.Id, got, err)
		}
	}
	for _, x := range g.E {
		if got, err := linkOf(r.t, r.s, x.Id); err != e && (err != api.OK || got != tellLink(x)) {
			r.t.Fatalf("E(%d): %s, %d", x.Id, got, err)
		}
	}
	whole := everyLoop(intact)
	for what, got := range everyLoop(r.s) {
		if of := whole[what]; len(got) > len(of) || !slices.Equal(got, of[:len(got)]) {
			r.t.Fatalf("%s: %q is no beginning of %q", what, got, of)
		}
	}
	counts, err := countsOf(r.t, r.s)
	if err != e && (err != api.OK || counts != [3]int64{int64(len(g.V)), int64(len(g.E)), g.Last}) {
		r.t.Fatalf("Counts: %v, %d", counts, err)
	}
}

// P12.1 to P12.3: of pages that broke, and while the power is away, every call tells so, or tells nothing; a graph that may not be is named first.
func TestBrokenPages(t *testing.T) {
	for _, e := range []api.Errno{api.ErrDown, api.ErrBroken} {
		ask := map[string]func(s *Store) api.Errno{
			"Load":   func(s *Store) api.Errno { _, err := load(t, s); return err },
			"Save":   func(s *Store) api.Errno { return save(t, s, changed(t)) },
			"V":      func(s *Store) api.Errno { _, err := vertexOf(t, s, 1); return err },
			"no V":   func(s *Store) api.Errno { _, err := vertexOf(t, s, 3); return err },
			"E":      func(s *Store) api.Errno { _, err := linkOf(t, s, 3); return err },
			"Counts": func(s *Store) api.Errno { _, err := countsOf(t, s); return err },
		}
		for what, f := range ask {
			r := holding(t, sample())
			r.settled(api.MinPool)
			want(t, "Crash", r.d.Crash(-1), api.OK)
			if e == api.ErrBroken {
				want(t, "Load", must2(r.s.Load()), api.ErrDown)
			}
			want(t, what, f(r.s), e)
			want(t, what+" again", f(r.s), api.ErrBroken)
			want(t, "Save of what may not be", save(t, r.s, api.Graph{Last: -1}), api.ErrGraph)
			for what, l := range everyLoop(r.s) {
				if l != nil {
					t.Errorf("%s: %q", what, l)
				}
			}
			// When the power is back all is as it was.
			want(t, "Start", r.d.Start(-1), api.OK)
			r.reopen()
			r.holds("back", sample())
		}
	}
}

func must2(_ api.Graph, err api.Errno) api.Errno { return err }

// everyLoop is what each of the loops tells of a sample.
func everyLoop(s *Store) map[string][]string {
	l := map[string][]string{
		"Find":   texts(s.Find(api.VVertex, "age", value.Int(30))),
		"Find e": texts(s.Find(api.VEdge, "since", alike()[14])),
	}
	for _, x := range sample().V {
		l[fmt.Sprint("Out ", x.Id)] = byLabels(s.Out(x.Id))
		l[fmt.Sprint("In ", x.Id)] = byLabels(s.In(x.Id))
		l[fmt.Sprint("Out knows ", x.Id)] = byLabels(s.Out(x.Id, "knows"))
		l[fmt.Sprint("In likes ", x.Id)] = byLabels(s.In(x.Id, "likes"))
	}
	for _, kind := range []int{api.VVertex, api.VEdge} {
		l[fmt.Sprint("All ", kind)] = texts(s.All(kind))
		l[fmt.Sprint("All a ", kind)] = texts(s.All(kind, "a"))
		l[fmt.Sprint("All knows ", kind)] = texts(s.All(kind, "knows"))
	}
	return l
}

// other is a key and value that stand in the tree of another word.
func (r *rig) other(word int, x row) {
	r.t.Helper()
	tree, err := btree.Open(r.p, word)
	want(r.t, "btree.Open", err, api.OK)
	want(r.t, "Put", tree.Put([]byte(x.key), []byte(x.val)), api.OK)
}

// P12.1: the errors of the pages are named ahead of ErrStore: here it is not the tree that is no graph.
func TestAnotherWordsTree(t *testing.T) {
	r := roomyRig(t)
	r.other(0, row{"key", "value"})
	r.other(1, rowOf(keys.Meta(5, 0, 0)))
	r.commit()
	s := storeOf(t, r.p, 0)
	if _, err := s.Load(); err != api.ErrStore {
		t.Errorf("Load: %d", err)
	}
	r.holds("nothing", api.Graph{})
	if g, err := storeOf(t, r.p, 1).Load(); err != api.OK || g.Last != 5 {
		t.Errorf("Load: %v, %d", g, err)
	}
	want(t, "SetWord", r.p.SetWord(word, must(r.p.Word(0))), api.OK)
	r.commit()
	r.refuses("another word's tree", sample(), api.ErrStore)
}
