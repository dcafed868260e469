package gstore

import (
	"fmt"
	"math/rand"
	"testing"

	"ramble/api"
)

// P12.6: saving the empty graph with Last 0 leaves no pages in use, whatever was saved ahead; with another Last its one entry is left.
func TestNothingLeftOver(t *testing.T) {
	t.Parallel()
	for name, g := range edgeGraphs(t) {
		for _, pool := range []int{api.MinPool, 50, 200} {
			r := holding(t, g)
			r.open(pool)
			r.save(api.Graph{})
			r.isEmpty(name)
			r.reopen()
			r.isEmpty(name + ", opened anew")
			r.save(api.Graph{Last: 1})
			if r.used() != 1 {
				t.Fatalf("%s: %d pages are in use for the last id", name, r.used())
			}
			r.save(api.Graph{V: []api.Vertex{}, E: []api.Link{}})
			r.isEmpty(name + ", once more")
		}
	}
}

func (r *rig) isEmpty(what string) {
	r.t.Helper()
	if r.used() != 0 || must(r.p.Word(word)) != 0 || r.rows() != nil {
		r.t.Fatalf("%s: %d pages are in use, the root is %d", what, r.used(), must(r.p.Word(word)))
	}
	reads(r.t, what, r.s, api.Graph{}, few(sample()))
}

// P12.6: what others have in the pages is left to them.
func TestOthersPagesStay(t *testing.T) {
	r := holding(t, sample())
	r.ahead()
	r.commit()
	r.save(api.Graph{})
	if r.used() != 2 {
		t.Errorf("%d pages are in use", r.used())
	}
	r.wantAhead("others'", true)
}

// P12.6: a graph that takes all of the pages can be taken away again, with no page free ahead of it.
func TestFullPages(t *testing.T) {
	t.Parallel()
	r := newRig(t, 4000, 120, 250)
	g := api.Graph{}
	for count := 5; ; count++ {
		if err := save(t, r.s, grown(count)); err != api.OK {
			want(t, "Save", err, api.ErrFull)
			break
		}
		g = grown(count)
	}
	if r.p.Left() >= api.Spare {
		t.Fatalf("refused with %d pages free", r.p.Left())
	}
	r.holds("full", g)
	r.fill()
	r.holds("no page is free", g)
	r.save(api.Graph{})
	r.reopen()
	r.holds("empty", api.Graph{})
}

// twin is what there was room for: the same Saves, where nothing is refused.
type twin struct {
	*rig
	g api.Graph
}

// tried is a Save that may be refused for want of room: ErrFull only if fewer than Spare pages are free at the beginning, or would be at the end; ErrPool only if the pool has no room for Spare more than are changed at the end. (A few more: what is put together on the way may come apart again.)
func (r *rig) tried(w *twin, g api.Graph) api.Errno {
	r.t.Helper()
	const more = 6
	left, before := r.p.Left(), r.image()
	pages := w.pagesNow()
	w.save(g)
	end := r.p.Pages() - 1 - w.used()
	changed := w.changedSince(pages)
	err := save(r.t, r.s, g)
	switch {
	case err == api.OK:
		w.g = g
		return err
	case err == api.ErrFull && min(left, end) < api.Spare+more:
	case err == api.ErrPool && r.p.Pool()-changed < api.Spare+more:
	default:
		r.t.Fatalf("Save: %d, with %d pages free, %d at the end, %d pages changed, a pool of %d", err, left, end, changed, r.p.Pool())
	}
	if r.image() != before {
		r.t.Fatalf("%d, and the pages have changed", err)
	}
	w.save(w.g)
	return err
}

// pagesNow is what each page has.
func (r *rig) pagesNow() map[int]string {
	l := map[int]string{}
	for page := range r.p.Pages() {
		if b, err := r.p.Get(page); err == api.OK {
			l[page] = string(b)
		}
	}
	return l
}

// changedSince is how many pages have something else, of those that are there now.
func (r *rig) changedSince(was map[int]string) int {
	count := 0
	for page, b := range r.pagesNow() {
		if old, is := was[page]; !is || old != b {
			count++
		}
	}
	return count
}

// P12.2: pages and pools of any size: what is refused is refused for want of room, has changed nothing, and what asks for less goes well.
func TestRefused(t *testing.T) {
	for seed := range 12 {
		t.Run(fmt.Sprint(seed), func(t *testing.T) {
			t.Parallel()
			rnd := rand.New(rand.NewSource(int64(seed)))
			r := newRig(t, 1200, 45+rnd.Intn(60), 42+rnd.Intn(60))
			w := &twin{rig: newRig(t, 4000, 1000, api.MaxPool)}
			g := api.Graph{}
			refused := map[api.Errno]int{}
			for range 40 {
				h := g
				if rnd.Intn(4) == 0 {
					h = someGraph(rnd, rnd.Intn(20), rnd.Intn(30))
				} else {
					for range rnd.Intn(30) {
						h = change(rnd, h)
					}
				}
				err := r.tried(w, h)
				if err == api.OK {
					g = h
				}
				refused[err]++
				r.holds("tried", g)
				if rnd.Intn(5) == 0 {
					r.reopen()
				}
			}
			r.wantForm(g)
			r.save(api.Graph{})
			if refused[api.OK] < 5 {
				t.Errorf("how often which error: %v", refused)
			}
		})
	}
}

// P12.2: where all of a graph goes, its room is there for the next one: refused is nothing, as long as Spare pages are free at the beginning and at the end, whichever ids come first.
func TestOneInThePlaceOfAnother(t *testing.T) {
	t.Parallel()
	low, high := grown(70), grown(70)
	for i := range high.V {
		high.V[i].Id += 1000
	}
	for i := range high.E {
		high.E[i].Id, high.E[i].Out, high.E[i].In = high.E[i].Id+1000, high.E[i].Out+1000, high.E[i].In+1000
	}
	high.Last += 1000
	takeTurns(t, low, high, 10)
}

// P12.2: likewise where some values get longer, and others shorter, whichever come first.
func TestLongInThePlaceOfShort(t *testing.T) {
	t.Parallel()
	var low, high api.Graph
	model, _ := sized(1, 3000)
	for id := range int64(28) {
		long, short := v(id+1, "a", model.Props...), v(id+1, "a", p("age", value1()))
		if id < 14 {
			long, short = short, long
		}
		low.V, high.V = append(low.V, long), append(high.V, short)
	}
	low.Last, high.Last = 28, 28
	takeTurns(t, low, high, 4)
}

// takeTurns saves two graphs by turns, where there are just as many pages as one of them and Spare need, or a few more.
func takeTurns(t *testing.T, a, b api.Graph, more int) {
	t.Helper()
	used := max(holding(t, a).used(), holding(t, b).used())
	if used < api.Spare+more+5 {
		t.Fatalf("%d pages are in use: room for both", used)
	}
	for pages := range 5 {
		r := newRig(t, 1500, 1+used+api.Spare+more+pages, 250)
		for i, g := range []api.Graph{b, a, b, a, b} {
			if err := r.s.Save(g); err != api.OK {
				t.Fatalf("%d pages, the Save %d: %d, with %d pages free", r.p.Pages(), i, err, r.p.Left())
			}
		}
		r.holds("at last", b)
	}
}
