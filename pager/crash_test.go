package pager

import (
	"fmt"
	"math/rand"
	"testing"

	"ramble/api"
	"ramble/disk"
)

// keeps is which of so many sectors are kept: the bits of mask.
func keeps(dirty, mask int) ([]bool, int) {
	keep := make([]bool, dirty)
	kept := 0
	for i := range keep {
		keep[i] = mask>>i&1 == 1
		kept += mask >> i & 1
	}
	return keep, kept
}

// startClone starts a clone of a disk whose power went.
func startClone(t testing.TB, d *disk.Disk, torn int, keep []bool, then func(way string, c *disk.Disk)) {
	t.Helper()
	c := d.Clone()
	want(t, "Start", c.Start(torn, keep...), api.OK)
	then(fmt.Sprintf("kept %v, torn %d", keep, torn), c)
}

// allWays starts clones of a disk whose power went, with what was not flushed kept and torn in every way there is.
func allWays(t testing.TB, d *disk.Disk, then func(way string, c *disk.Disk)) {
	t.Helper()
	dirty := len(d.Dirty())
	for mask := range 1 << dirty {
		keep, kept := keeps(dirty, mask)
		for torn := -1; torn < kept; torn++ {
			startClone(t, d, torn, keep, then)
		}
	}
}

// everyWay is allWays; of more than eight sectors only some ways, with none and all of them kept among these.
func everyWay(t testing.TB, d *disk.Disk, then func(way string, c *disk.Disk)) {
	t.Helper()
	dirty := len(d.Dirty())
	if dirty <= 8 {
		allWays(t, d, then)
		return
	}
	r := rand.New(rand.NewSource(int64(dirty)))
	for range 60 {
		keep, kept := keeps(dirty, r.Intn(1<<dirty))
		startClone(t, d, r.Intn(kept+1)-1, keep, then)
	}
	startClone(t, d, -1, []bool{false}, then)
	for torn := -1; torn < dirty; torn++ {
		startClone(t, d, torn, []bool{true}, then)
	}
}

// deed is something that is staged, and then committed, or a Checkpoint with that staged.
type deed struct {
	text  string
	stage func(p *Pager)
	last  func(p *Pager) api.Errno
}

func deeds() []deed {
	return []deed{
		{"make one and commit", func(p *Pager) { p.Alloc() }, (*Pager).Commit},
		{"set 1 and a word, and commit", func(p *Pager) { p.Set(1, some(150, 1)); p.SetWord(2, 1<<40) }, (*Pager).Commit},
		{"set 1 to much, and commit", func(p *Pager) { p.Set(1, some(448, 2)) }, (*Pager).Commit},
		{"free 1 and commit", func(p *Pager) { p.Free(1) }, (*Pager).Commit},
		{"checkpoint", func(p *Pager) {}, (*Pager).Checkpoint},
		{"checkpoint with 1 set", func(p *Pager) { p.Set(1, []byte("lost")) }, (*Pager).Checkpoint},
	}
}

// crasher does deeds one behind the other, and lets the power go in the last one.
type crasher struct {
	t        *testing.T
	laid     *disk.Disk
	ways     func(t testing.TB, d *disk.Disk, then func(way string, c *disk.Disk))
	old, new int // how often the power went and what was under way was not there, and was there
}

// done is the pages behind deeds, on a disk of their own.
func (c *crasher) done(way []deed) (*disk.Disk, *Pager) {
	d := c.laid.Clone()
	p := open(c.t, d, api.MinPool)
	for _, x := range way {
		c.do(x, p)
	}
	return d, p
}

func (c *crasher) do(x deed, p *Pager) {
	x.stage(p)
	want(c.t, x.text, x.last(p), api.OK)
	want(c.t, "Abort", p.Abort(), api.OK)
}

// walk lets the power go at each call of the last one of some deeds, and goes on with one more.
func (c *crasher) walk(way []deed, left int) {
	if left == 0 {
		return
	}
	for _, x := range deeds() {
		d, p := c.done(way)
		old := viewOf(c.t, x.text, p)
		ahead := d.Calls()
		c.do(x, p)
		calls := int(d.Calls() - ahead)
		new := viewOf(c.t, x.text, p)
		wantReopened(c.t, x.text, d, new)
		for fuse := 1; fuse <= calls; fuse++ {
			c.crash(way, x, fuse, old, new)
		}
		c.walk(append(way[:len(way):len(way)], x), left-1)
	}
}

// crash lets the power go at one call of a deed behind others.
func (c *crasher) crash(way []deed, x deed, fuse int, old, new view) {
	d, p := c.done(way)
	x.stage(p)
	want(c.t, "SetFuse", d.SetFuse(fuse), api.OK)
	want(c.t, x.text, x.last(p), api.ErrDown)
	c.ways(c.t, d, func(how string, d *disk.Disk) {
		got := viewOf(c.t, x.text, open(c.t, d, api.MinPool))
		switch got.text() {
		case old.text():
			c.old++
		case new.text():
			c.new++
		default:
			c.t.Fatalf("%v, the power goes at the call %d, %s: %s; want %s or %s", append(way, x), fuse, how, got.text(), old.text(), new.text())
		}
		wantView(c.t, "opened again", open(c.t, d, api.MinPool), got)
	})
}

// P7.5: behind a crash at any call of any Commit or Checkpoint, whatever is kept and torn, Open gives what was committed, or that with what was under way; and the same again.
func TestCrashes(t *testing.T) {
	deep := 3
	if testing.Short() {
		deep = 2
	}
	c := &crasher{t: t, laid: formatted(t, 6, 3), ways: everyWay}
	c.walk(nil, deep)
	if c.old == 0 || c.new == 0 {
		t.Errorf("%d crashes left what was, %d what should be", c.old, c.new)
	}
}

// P7.5: the power goes at each call of a Checkpoint of all pages, and of a Commit that makes one, with what is kept and torn in every way there is.
func TestCheckpointInEveryWay(t *testing.T) {
	if testing.Short() {
		t.Skip("takes seconds")
	}
	make2 := deed{"make 1 and 2", func(p *Pager) { p.Alloc(); p.Alloc(); p.Set(2, some(100, 5)) }, (*Pager).Commit}
	all := deeds()
	for _, x := range []deed{all[4], all[2]} {
		calls := 12 + 1 + 2
		if x.text == all[2].text {
			calls += 5 + 1
		}
		for fuse := 1; fuse <= calls; fuse++ {
			t.Run(fmt.Sprint(x.text, " ", fuse), func(t *testing.T) {
				t.Parallel()
				c := &crasher{t: t, laid: formatted(t, 6, 3), ways: allWays}
				_, p := c.done([]deed{make2, all[1]})
				old := viewOf(t, "ahead", p)
				c.do(x, p)
				c.crash([]deed{make2, all[1]}, x, fuse, old, viewOf(t, "behind", p))
			})
		}
	}
}

// P7.5: the power goes in a Commit, then in Open, then in Open again; each time whatever is kept and torn.
func TestCrashesOneBehindTheOther(t *testing.T) {
	r := rand.New(rand.NewSource(5))
	for range 3000 {
		d := formatted(t, 6, 3)
		p := open(t, d, api.MinPool)
		alloc(t, p, 1)
		set(t, p, 1, some(100, 1))
		want(t, "Commit", p.Commit(), api.OK)
		old := texts(string(some(100, 1)))
		new := view{texts(string(some(200, 2)), "").pages, [4]int64{-1}}
		set(t, p, 1, some(200, 2))
		alloc(t, p, 2)
		want(t, "SetWord", p.SetWord(0, -1), api.OK)
		want(t, "SetFuse", d.SetFuse(1+r.Intn(20)), api.OK)
		e := p.Commit()
		for range 3 {
			someStart(t, r, d)
			want(t, "SetFuse", d.SetFuse(1+r.Intn(14)), api.OK)
			Open(d, api.MinPool)
		}
		someStart(t, r, d)
		want(t, "SetFuse", d.SetFuse(0), api.OK)
		got := viewOf(t, "crashes", open(t, d, api.MinPool))
		if got.text() != new.text() && (e == api.OK || got.text() != old.text()) {
			t.Fatalf("Commit: %d, and then %s", e, got.text())
		}
		wantReopened(t, "crashes", d, got)
	}
}

// someStart lets the power go, if it is there, and come back, with anything kept and torn.
func someStart(t testing.TB, r *rand.Rand, d *disk.Disk) {
	t.Helper()
	torn, keep := r.Intn(6)-1, make([]bool, r.Intn(7))
	for i := range keep {
		keep[i] = r.Intn(3) > 0
	}
	if !d.Down() {
		want(t, "Crash", d.Crash(torn, keep...), api.OK)
	}
	want(t, "Start", d.Start(torn, keep...), api.OK)
}
