package gstore

import (
	"fmt"
	"math/rand"
	"sync/atomic"
	"testing"

	"ramble/api"
	"ramble/disk"
	"ramble/pager"
)

// ways starts clones of a disk whose power went, with what was not flushed kept and torn: none, all, all but one, up to one, each of these with one torn; of few sectors in every way there is, of more in some by chance, too.
func ways(t testing.TB, d *disk.Disk, then func(way string, c *disk.Disk)) {
	t.Helper()
	dirty := len(d.Dirty())
	start := func(torn int, keep ...bool) {
		t.Helper()
		c := d.Clone()
		want(t, "Start", c.Start(torn, keep...), api.OK)
		want(t, "SetFuse", c.SetFuse(0), api.OK)
		then(fmt.Sprintf("kept %v, torn %d", keep, torn), c)
	}
	if dirty <= 4 {
		for mask := range 1 << dirty {
			keep := make([]bool, dirty)
			for i := range keep {
				keep[i] = mask>>i&1 == 1
			}
			for torn := -1; torn < dirty; torn++ {
				start(torn, keep...)
			}
		}
		return
	}
	start(-1, false)
	start(-1, true)
	rnd := rand.New(rand.NewSource(int64(dirty)))
	for range 4 {
		one := rnd.Intn(dirty)
		start(one, true)
		but, upTo, some := make([]bool, dirty), make([]bool, dirty), make([]bool, dirty)
		for i := range dirty {
			but[i], upTo[i], some[i] = i != one, i <= one, rnd.Intn(2) == 0
		}
		start(-1, but...)
		start(rnd.Intn(one+1)-1, upTo...)
		start(rnd.Intn(dirty)-1, some...)
	}
}

// crasher lets the power go while one graph takes another one's place.
type crasher struct {
	laid       *rig
	from, to   api.Graph
	old, new   atomic.Int64 // how often the one was there behind it, and the other
	whileOpens atomic.Int64 // how often the power went while the pages were opened
}

// saved is the laid pages with the first graph saved, and, of a fuse above 0, the power gone at that call of the Save of the second one.
func (c *crasher) saved(t testing.TB, fuse int) *rig {
	t.Helper()
	r := &rig{t: t, d: c.laid.d.Clone()}
	r.open(60)
	r.save(c.from)
	r.ahead()
	if fuse > 0 {
		want(t, "SetFuse", r.d.SetFuse(fuse), api.OK)
		want(t, "Save", save(t, r.s, c.to), api.ErrDown)
		_, err := load(t, r.s)
		want(t, "Load", err, api.ErrBroken)
		want(t, "Save again", save(t, r.s, c.to), api.ErrBroken)
	}
	return r
}

// run lets the power go at each call.
func (c *crasher) run(t *testing.T) {
	t.Helper()
	r := c.saved(t, 0)
	calls := r.d.Calls()
	r.save(c.to)
	for fuse := 1; fuse <= int(r.d.Calls()-calls); fuse++ {
		t.Run(fmt.Sprint(fuse), func(t *testing.T) {
			t.Parallel()
			ways(t, c.saved(t, fuse).d, func(way string, d *disk.Disk) {
				what := fmt.Sprintf("the call %d, %s", fuse, way)
				x := c.holdsOne(t, what, d.Clone())
				c.opening(t, what, d, x, fuse)
			})
		})
	}
}

// holdsOne holds that one of both graphs is there, and what was staged ahead of the second one with that one; it goes on from there. It is the graph.
func (c *crasher) holdsOne(t testing.TB, what string, d *disk.Disk) string {
	t.Helper()
	r := &rig{t: t, d: d}
	r.open(60)
	got, err := load(t, r.s)
	want(t, what+": Load", err, api.OK)
	switch got {
	case tell(c.from):
		c.old.Add(1)
		r.wantAhead(what, false)
		r.wantForm(c.from)
	case tell(c.to):
		c.new.Add(1)
		r.wantAhead(what, true)
	default:
		t.Fatalf("%s: the graph is neither of both:\n%s", what, got)
	}
	r.open(60)
	again, err := load(t, r.s)
	want(t, what+": Load again", err, api.OK)
	wantText(t, what+", opened again", again, got)
	r.save(far())
	r.reopen()
	r.holds(what+", another one", far())
	return got
}

// opening lets the power go once more, at some call of opening the pages: then the same graph is there.
func (c *crasher) opening(t testing.TB, what string, d *disk.Disk, x string, seed int) {
	t.Helper()
	rnd := rand.New(rand.NewSource(int64(seed)))
	for range 3 {
		d := d.Clone()
		for range 2 {
			want(t, "SetFuse", d.SetFuse(1+rnd.Intn(40)), api.OK)
			if _, err := pager.Open(d, 60); err != api.ErrDown {
				want(t, "SetFuse", d.SetFuse(0), api.OK)
				continue
			}
			c.whileOpens.Add(1)
			keep := make([]bool, 1+rnd.Intn(7))
			for i := range keep {
				keep[i] = rnd.Intn(3) > 0
			}
			want(t, "Start", d.Start(rnd.Intn(9)-1, keep...), api.OK)
			want(t, "SetFuse", d.SetFuse(0), api.OK)
		}
		r := &rig{t: t, d: d}
		r.open(60)
		got, err := load(t, r.s)
		want(t, what+": Load", err, api.OK)
		wantText(t, what+", and the power goes while it is opened", got, x)
	}
}

// P12.5: the power goes at each call of the disk while a Save is under way, whatever is kept and torn, and again while the pages are opened: the graph is the one that was saved last, or the one that was being saved.
func TestCrashes(t *testing.T) {
	t.Parallel()
	small := api.Graph{V: []api.Vertex{v(1, "a", p("b", value1()))}, Last: 1}
	for i, c := range []struct {
		slots    int
		from, to api.Graph
	}{
		{100, api.Graph{}, small},
		{100, small, api.Graph{}},
		{120, small, sample()},
		{120, sample(), changed(t)},
		{120, changed(t), api.Graph{}},
		{300, sample(), far()},
		{600, sample(), api.Graph{Last: 17}},
	} {
		x := &crasher{laid: newRig(t, c.slots, 70, 60), from: c.from, to: c.to}
		t.Run(fmt.Sprint(i), func(t *testing.T) {
			x.run(t)
		})
		if x.old.Load() == 0 || x.new.Load() == 0 || x.whileOpens.Load() == 0 {
			t.Errorf("%d crashes left what was, %d what should be; %d were while it was opened", x.old.Load(), x.new.Load(), x.whileOpens.Load())
		}
	}
}

func value1() api.Value { return api.Value{Kind: api.VInt, N: 1} }

// P12.5: long ways of Saves, with the power going at any time.
func TestLongWaysWithCrashes(t *testing.T) {
	for seed := range 8 {
		t.Run(fmt.Sprint(seed), func(t *testing.T) {
			t.Parallel()
			rnd := rand.New(rand.NewSource(int64(seed)))
			r := newRig(t, 300+rnd.Intn(300), 150, 140)
			g := api.Graph{}
			crashes := 0
			for i := range 60 {
				h := g
				for range rnd.Intn(9) {
					h = change(rnd, h)
				}
				if rnd.Intn(10) == 0 {
					h = api.Graph{}
				}
				if rnd.Intn(2) == 0 {
					want(t, "SetFuse", r.d.SetFuse(1+rnd.Intn(30)), api.OK)
				}
				switch err := save(t, r.s, h); err {
				case api.OK:
					g = h
					want(t, "SetFuse", r.d.SetFuse(0), api.OK)
				case api.ErrDown:
					crashes++
					keep := make([]bool, 1+rnd.Intn(9))
					for i := range keep {
						keep[i] = rnd.Intn(3) > 0
					}
					want(t, "Start", r.d.Start(rnd.Intn(9)-1, keep...), api.OK)
					want(t, "SetFuse", r.d.SetFuse(0), api.OK)
					r.reopen()
					got, err := load(t, r.s)
					want(t, "Load", err, api.OK)
					if got == tell(h) {
						g = h
					}
				default:
					t.Fatalf("Save: %d", err)
				}
				r.holds(fmt.Sprint("step ", i), g)
				r.wantForm(g)
			}
			reads(t, "at last", r.s, g, few(g))
			if crashes < 1 {
				t.Errorf("%d crashes", crashes)
			}
		})
	}
}
