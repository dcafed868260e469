package gstore

import (
	"fmt"
	"math/rand"
	"slices"
	"testing"

	"ramble/api"
	"ramble/graph"
)

// P1, P6: whatever stands in the pages, all calls end; Load answers an error, or a graph that may be and has just the entries that stand there; Save answers that error, or goes well.
func TestAnyPages(t *testing.T) {
	t.Parallel()
	loaded := map[api.Errno]int{}
	for seed := range 300 {
		rnd := rand.New(rand.NewSource(int64(seed)))
		r := holding(t, []api.Graph{sample(), far(), {Last: 3}, grown(1)}[rnd.Intn(4)])
		for range 1 + rnd.Intn(3) {
			r.scribble(rnd)
		}
		g, err := r.s.Load()
		loaded[err]++
		if err != api.OK && err != api.ErrTree && err != api.ErrStore {
			t.Fatalf("Load: %d", err)
		}
		if err == api.OK && (graph.Check(g) != api.OK || !slices.Equal(r.rows(), rowsOf(g))) {
			t.Fatalf("Load: %s of %q", tell(g), r.rows())
		}
		for id := range int64(25) {
			vertexOf(t, r.s, id)
			linkOf(t, r.s, id)
		}
		countsOf(t, r.s)
		everyLoop(r.s)
		want(t, "Save", save(t, r.s, changed(t)), err)
		if err == api.OK {
			r.holds("saved", changed(t))
		}
	}
	if len(loaded) < 3 {
		t.Errorf("how often which error: %v", loaded)
	}
}

// scribble makes one page another one: some of its bytes are changed, it gets another page's bytes, or it is free.
func (r *rig) scribble(rnd *rand.Rand) {
	r.t.Helper()
	page := 1 + rnd.Intn(r.used()+1)
	b, err := r.p.Get(page)
	if err == api.ErrNone {
		return
	}
	want(r.t, "Get", err, api.OK)
	switch rnd.Intn(8) {
	case 0:
		want(r.t, "Free", r.p.Free(page), api.OK)
		return
	case 1:
		b, _ = r.p.Get(1 + rnd.Intn(r.used()))
	case 2:
		b = b[:rnd.Intn(len(b)+1)]
	default:
		for range 1 + rnd.Intn(2) {
			if len(b) > 0 {
				b[rnd.Intn(len(b))] ^= 1 << rnd.Intn(8)
			}
		}
	}
	want(r.t, "Set", r.p.Set(page, b), api.OK)
}

// P1, P6: whatever entries stand in the tree: some of one graph's and some of another's, or of both.
func TestAnyEntries(t *testing.T) {
	t.Parallel()
	loaded := map[api.Errno]int{}
	for seed := range 300 {
		rnd := rand.New(rand.NewSource(int64(seed)))
		r := roomyRig(t)
		g := someGraph(rnd, rnd.Intn(4), rnd.Intn(3))
		h := change(rnd, g)
		for _, x := range rowsOf(g) {
			r.put(x)
		}
		for _, x := range rowsOf(h) {
			if rnd.Intn(4) > 0 {
				r.put(x)
			}
		}
		for _, x := range r.rows() {
			if !slices.Contains(rowsOf(h), x) && rnd.Intn(4) > 0 {
				r.take(x.key)
			}
		}
		e := api.ErrStore
		for _, x := range []api.Graph{g, h} {
			if slices.Equal(r.rows(), rowsOf(x)) {
				e = api.OK
				r.holds("entries", x)
			}
		}
		_, err := load(t, r.s)
		// With another Last, or another value of the same sign, it may be a third graph.
		if err != e && !(err == api.OK && r.isGraph()) {
			t.Fatalf("Load: %d, want %d", err, e)
		}
		loaded[err]++
		everyLoop(r.s)
	}
	if loaded[api.OK] < 20 || loaded[api.ErrStore] < 20 {
		t.Errorf("how often which error: %v", loaded)
	}
}

// isGraph tells whether what Load answers may be, and has just the entries that stand there.
func (r *rig) isGraph() bool {
	g, err := r.s.Load()
	return err == api.OK && graph.Check(g) == api.OK && fmt.Sprintf("%q", r.rows()) == fmt.Sprintf("%q", rowsOf(g))
}
