package gstore

import (
	"fmt"
	"slices"
	"testing"

	"ramble/api"
	"ramble/graph"
	"ramble/value"
)

// P12.2: the graph is what was saved, and that is committed: whatever of what was not flushed is lost.
func TestSaved(t *testing.T) {
	t.Parallel()
	graphs := edgeGraphs(t)
	for from, g := range graphs {
		for to, h := range graphs {
			r := holding(t, g)
			r.save(h)
			r.holds(from+", "+to, h)
			want(t, "Crash", r.d.Crash(0), api.OK)
			want(t, "Start", r.d.Start(0), api.OK)
			r.reopen()
			r.holds(from+", "+to+", behind a crash", h)
			if got := r.rows(); !slices.Equal(got, rowsOf(h)) {
				t.Fatalf("%s, %s: got %q, want %q", from, to, got, rowsOf(h))
			}
			keys, pages, err := r.tree().Check()
			if keys != len(rowsOf(h)) || pages != r.used() || err != api.OK {
				t.Fatalf("%s, %s: %d keys, %d pages, %d; %d pages are in use", from, to, keys, pages, err, r.used())
			}
		}
	}
}

// P12.2: a graph that may not be is refused, and all is as it was.
func TestSaveOfNoGraph(t *testing.T) {
	r := holding(t, sample())
	before := r.image()
	for i, g := range mayNot() {
		want(t, fmt.Sprint("Save of the graph ", i), save(t, r.s, g), api.ErrGraph)
		if r.image() != before {
			t.Fatalf("Save of the graph %d has changed the pages", i)
		}
	}
	r.holds("refused", sample())
	r.reopen()
	r.holds("refused, opened anew", sample())
}

// tooLong is a graph an entry of which has a value of one byte more than may be.
func tooLong() api.Graph {
	x, _ := sized(1, api.MaxVal+1)
	return api.Graph{V: []api.Vertex{x, v(2, "a")}, Last: 2}
}

// P12.2: an entry's value of MaxVal bytes is saved; with one byte more, or many, it is ErrLong, whichever entry it is, and all is as it was.
func TestLongest(t *testing.T) {
	t.Parallel()
	long, link := sized(1, api.MaxVal)
	g := api.Graph{V: []api.Vertex{long, v(2, "b")}, E: []api.Link{e(3, "a", 1, 2), link}, Last: 9}
	g.E[1].Id = 4
	r := holding(t, g)
	reads(t, "MaxVal", r.s, g, few(g))
	for i, rows := range rowsOf(g) {
		if len(rows.val) > api.MaxVal {
			t.Fatalf("the entry %d has %d bytes", i, len(rows.val))
		}
	}
	before := r.image()
	for bytes := api.MaxVal + 1; bytes < api.MaxVal+300; bytes += 43 {
		long, link := sized(1, bytes)
		link.Id = 4
		for i, h := range []api.Graph{
			{V: []api.Vertex{long}, Last: 1},
			{V: []api.Vertex{v(1, "a"), v(2, "a"), {Id: 5, Label: "a", Props: long.Props}}, Last: 5},
			{V: g.V, E: []api.Link{e(3, "a", 1, 2), link}, Last: 9},
			{V: []api.Vertex{long}, E: []api.Link{link}, Last: 9},
		} {
			want(t, "graph.Check", graph.Check(h), api.OK)
			want(t, fmt.Sprint("Save of ", bytes, " bytes, ", i), save(t, r.s, h), api.ErrLong)
			if r.image() != before {
				t.Fatalf("%d bytes, %d: the pages have changed", bytes, i)
			}
		}
	}
	greatest := api.Graph{V: []api.Vertex{v(1, "a")}, Last: 1}
	for i := range api.MaxProps {
		greatest.V[0].Props = append(greatest.V[0].Props, p(fmt.Sprintf("p%02d", i), list(many(str("a", 128), api.MaxList)...)))
	}
	want(t, "Save of the greatest vertex", save(t, r.s, greatest), api.ErrLong)
	r.reopen()
	r.holds("refused", g)
}

// P12.2, R1: the errors come in the order in which they are named.
func TestSaveErrorsInOrder(t *testing.T) {
	t.Parallel()
	noGraph := tooLong()
	noGraph.Last = 1
	for _, c := range []struct {
		what  string
		spoil func(r *rig)
		e     api.Errno
	}{
		{"no tree", func(r *rig) { want(t, "SetWord", r.p.SetWord(word, -1), api.OK); r.commit() }, api.ErrTree},
		{"no graph", func(r *rig) { r.put(row{"\xff", ""}); r.commit() }, api.ErrStore},
		{"damage", func(r *rig) { r.settled(8); r.damage(1000, 2, 0) }, api.ErrDamage},
		{"the power is away", func(r *rig) { r.settled(8); want(t, "Crash", r.d.Crash(-1), api.OK) }, api.ErrDown},
		{"broken", func(r *rig) { r.lose() }, api.ErrBroken},
		{"no room in the pages", func(r *rig) { r.fill() }, api.ErrLong},
		{"nothing", func(r *rig) {}, api.ErrLong},
	} {
		r := holding(t, sample())
		c.spoil(r)
		want(t, c.what+", and no graph", save(t, r.s, noGraph), api.ErrGraph)
		want(t, c.what+", and too long", save(t, r.s, tooLong()), c.e)
	}
	// What is long enough, and has no room.
	r := holding(t, sample())
	r.fill()
	x, _ := sized(20, api.MaxVal)
	g := sample()
	g.V, g.Last = append(g.V, x), 20
	want(t, "no room", save(t, r.s, g), api.ErrFull)
}

// fill takes all pages that are free, and commits that.
func (r *rig) fill() {
	r.t.Helper()
	for r.p.Left() > 0 {
		_, err := r.p.Alloc()
		want(r.t, "Alloc", err, api.OK)
		if r.p.Staged() > 100 {
			r.commit()
		}
	}
	r.commit()
}

// ahead stages all sorts of things: a page, a word, and what is in the tree of another word.
func (r *rig) ahead() {
	r.t.Helper()
	page, err := r.p.Alloc()
	want(r.t, "Alloc", err, api.OK)
	want(r.t, "Set", r.p.Set(page, []byte("ahead")), api.OK)
	want(r.t, "SetWord", r.p.SetWord(0, int64(page)), api.OK)
	r.other(3, row{"a", "ahead"})
}

// wantAhead holds whether that is there.
func (r *rig) wantAhead(what string, is bool) {
	r.t.Helper()
	page := must(r.p.Word(0))
	b, err := r.p.Get(int(page))
	if !is {
		if page != 0 || must(r.p.Word(3)) != 0 {
			r.t.Fatalf("%s: what was staged is there", what)
		}
		return
	}
	if string(b) != "ahead" || err != api.OK {
		r.t.Fatalf("%s: what was staged is not there: %q, %d", what, b, err)
	}
	want(r.t, "SetWord", r.p.SetWord(0, 0), api.OK)
	r.other(3, row{"b", ""})
	r.abort()
}

// P12.2: what was staged ahead of a Save that goes well is committed with it, also if nothing else is to be done.
func TestStagedAheadOfSaving(t *testing.T) {
	for name, g := range edgeGraphs(t) {
		r := holding(t, sample())
		r.ahead()
		r.save(g)
		r.wantAhead(name, true)
		r.reopen()
		r.wantAhead(name+", opened anew", true)
		r.holds(name, g)
	}
}

// P12.2: what was staged ahead is part of what Save takes the place of: here the tree's own entries.
func TestStagedInTheTree(t *testing.T) {
	r := holding(t, sample())
	r.back(sample())
	for _, x := range rowsOf(sample()) {
		r.take(x.key)
	}
	r.holds("staged", api.Graph{})
	r.save(changed(t))
	r.reopen()
	r.holds("opened anew", changed(t))
}

// P12.2: what was staged ahead of a Save that is refused is staged as it was, R2.
func TestStagedAheadOfRefusal(t *testing.T) {
	for _, e := range []api.Errno{api.ErrGraph, api.ErrStore, api.ErrLong} {
		g := map[api.Errno]api.Graph{api.ErrGraph: {Last: -1}, api.ErrStore: changed(t), api.ErrLong: tooLong()}[e]
		for _, commit := range []bool{true, false} {
			r := holding(t, sample())
			if e == api.ErrStore {
				r.put(row{"\xff", ""})
				r.commit()
			}
			committed := r.image()
			r.ahead()
			before := r.image()
			want(t, "Save", save(t, r.s, g), e)
			if r.image() != before {
				t.Fatalf("%d: what was staged has changed", e)
			}
			if !commit {
				r.abort()
				if r.image() != committed {
					t.Fatalf("%d: what was committed has changed", e)
				}
				continue
			}
			r.commit()
			r.wantAhead("committed", true)
		}
	}
}

// fillPool stages so many pages that no other one can be.
func fillPool(r *rig) {
	r.t.Helper()
	for r.p.Staged() < r.p.Pool() {
		_, err := r.p.Alloc()
		want(r.t, "Alloc", err, api.OK)
	}
}

func withLast(g api.Graph, last int64) api.Graph {
	g.Last = last
	return g
}

// P12.2: what was staged ahead of a Save with an error of the pages is forgotten, and the graph is the one that was committed.
func TestStagedAheadOfErrors(t *testing.T) {
	for _, c := range []struct {
		what  string
		ahead func(r *rig)
		spoil func(r *rig)
		g     api.Graph
		e     api.Errno
	}{
		{"the pages", func(r *rig) { r.fill() }, func(r *rig) {}, grown(40), api.ErrFull},
		{"the pool", func(r *rig) { r.open(30) }, func(r *rig) {}, grown(40), api.ErrPool},
		{"the pool, full", func(r *rig) { r.open(api.MinPool) }, fillPool, api.Graph{Last: 1}, api.ErrPool},
		{"the pool, full, with nothing to be put", func(r *rig) { r.open(api.MinPool) }, fillPool, api.Graph{}, api.ErrPool},
		{"the pool, full, with one thing to be put", func(r *rig) { r.open(api.MinPool) }, fillPool, withLast(sample(), 18), api.ErrPool},
		{"damage", func(r *rig) { r.settled(8); r.damage(1000, 1, 0) }, func(r *rig) {}, grown(3), api.ErrDamage},
		{"no tree", func(r *rig) {}, func(r *rig) { want(t, "SetWord", r.p.SetWord(word, 77), api.OK) }, grown(3), api.ErrTree},
		{"no node", func(r *rig) {}, func(r *rig) { want(t, "Set", r.p.Set(1, []byte("?")), api.OK) }, grown(3), api.ErrTree},
	} {
		r := holding(t, sample())
		c.ahead(r)
		before := r.image()
		if c.e != api.ErrFull {
			r.ahead()
		} else {
			want(t, "SetWord", r.p.SetWord(0, 77), api.OK)
		}
		c.spoil(r)
		want(t, c.what, save(t, r.s, c.g), c.e)
		if r.image() != before {
			t.Fatalf("%s: the pages are not what they were", c.what)
		}
		r.wantAhead(c.what, false)
		r.commit()
		r.wantAhead(c.what, false)
		if c.e == api.ErrDamage {
			continue
		}
		r.holds(c.what, sample())
		r.reopen()
		r.holds(c.what+", opened anew", sample())
	}
}

// P12.2: the log has fewer slots than the commit takes: ErrFull, all is as it was, and what was staged is forgotten; a Save that takes less goes well.
func TestLogOfFewSlots(t *testing.T) {
	t.Parallel()
	refused := 0
	for slots := 1; slots < 120; slots += 3 {
		r := newRig(t, slots, 100, 90)
		small := api.Graph{Last: 1}
		if save(t, r.s, small) != api.OK {
			if slots > 10 {
				t.Fatalf("%d slots are too few for one page", slots)
			}
			r.ahead()
			want(t, "Save", save(t, r.s, small), api.ErrFull)
			small = api.Graph{}
		}
		before := r.image()
		switch err := save(t, r.s, sample()); err {
		case api.OK:
			r.holds("saved", sample())
			r.save(api.Graph{})
			continue
		case api.ErrFull:
			refused++
		default:
			t.Fatalf("Save: %d", err)
		}
		if r.image() != before {
			t.Fatalf("%d slots: the pages have changed", slots)
		}
		if slots > 20 {
			r.ahead()
			want(t, "Save", save(t, r.s, sample()), api.ErrFull)
			r.wantAhead("refused", false)
		}
		r.holds("refused", small)
		if slots > 10 {
			small.Last = 2
			r.save(small)
		}
		r.reopen()
		r.holds("opened anew", small)
	}
	if refused < 8 {
		t.Errorf("refused %d times", refused)
	}
}

// P12.2: only what is otherwise is written: a change of one property asks for little, however great the graph is.
func TestSmallChange(t *testing.T) {
	t.Parallel()
	g := api.Graph{}
	r := newRig(t, 1500, 1000, 256)
	for count := 100; count <= 600; count += 100 {
		g = grown(count)
		r.save(g)
	}
	r = &rig{t: t, d: r.d}
	r.open(60)
	used := r.used()
	if used < 200 {
		t.Fatalf("%d pages are in use", used)
	}
	for i := range 20 {
		var err api.Errno
		g, err = graph.Set(g, value.Vertex(int64(i*20+1)), "age", value.Int(int64(1000+i)))
		want(t, "Set", err, api.OK)
		calls := r.d.Calls()
		r.save(g)
		if calls = r.d.Calls() - calls; calls > 60 {
			t.Fatalf("%d calls of the disk for one property", calls)
		}
	}
	r.holds("changed", g)
	calls := r.d.Calls()
	r.save(g)
	if r.d.Calls() != calls {
		t.Errorf("the same graph again: %d calls of the disk", r.d.Calls()-calls)
	}
	r.save(api.Graph{})
	if r.used() != 0 {
		t.Errorf("%d pages are in use", r.used())
	}
}
