package pager

import (
	"fmt"
	"maps"
	"math/rand"
	"slices"
	"testing"

	"ramble/api"
	"ramble/disk"
	"ramble/wal"
)

// model is pages as a plain value: no disk, no log, no pool but its size.
type model struct {
	slots, pages, pool int
	was, now           view
	staged             map[int]bool
	moved, reworded    bool
}

func newModel(slots, pages, pool int) *model {
	return &model{slots: slots, pages: pages, pool: pool, was: texts(), now: texts(), staged: map[int]bool{}}
}

func (v view) copy() view { return view{maps.Clone(v.pages), v.words} }

func (m *model) has(page int) bool {
	_, is := m.now.pages[page]
	return is
}

func (m *model) alloc() (int, api.Errno) {
	for page := 1; page < m.pages; page++ {
		if m.has(page) {
			continue
		}
		if len(m.staged) == m.pool {
			return 0, api.ErrPool
		}
		m.now.pages[page], m.staged[page], m.moved = "", true, true
		return page, api.OK
	}
	return 0, api.ErrFull
}

func (m *model) free(page int) api.Errno {
	if !m.has(page) {
		return api.ErrNone
	}
	delete(m.now.pages, page)
	delete(m.staged, page)
	m.moved = true
	return api.OK
}

func (m *model) set(page int, b []byte) api.Errno {
	switch {
	case !m.has(page):
		return api.ErrNone
	case len(b) > 448:
		return api.ErrLong
	case !m.staged[page] && len(m.staged) == m.pool:
		return api.ErrPool
	}
	m.now.pages[page], m.staged[page] = string(b), true
	return api.OK
}

func (m *model) setWord(i int, n int64) api.Errno {
	if i < 0 || i > 3 {
		return api.ErrArg
	}
	m.reworded = m.reworded || m.now.words[i] != n
	m.now.words[i] = n
	return api.OK
}

func (m *model) abort() api.Errno {
	m.now = m.was.copy()
	m.settle()
	return api.OK
}

// records is what a commit consists of; none, if nothing is staged.
func (m *model) records() [][]byte {
	if !m.moved && m.now.words == m.was.words && len(m.staged) == 0 {
		return nil
	}
	var records [][]byte
	if m.moved || m.reworded {
		records = append(records, record(0, page0(m.pages, m.now.words, slices.Collect(maps.Keys(m.now.pages))...)))
	}
	for _, page := range slices.Sorted(maps.Keys(m.staged)) {
		records = append(records, record(page, []byte(m.now.pages[page])))
	}
	return records
}

// settle is what comes of a commit that stays.
func (m *model) settle() {
	m.was, m.staged, m.moved, m.reworded = m.now.copy(), map[int]bool{}, false, false
}

func (m *model) commit() api.Errno {
	if (len(laid(m.records()...))+111)/112 > m.slots {
		return api.ErrFull
	}
	m.settle()
	return api.OK
}

// both is pages, and the model of them.
type both struct {
	t testing.TB
	r *rand.Rand
	d *disk.Disk
	p *Pager
	m *model
}

// page is any page, more often one that is not free, seldom one that there is not.
func (b both) page() int {
	if b.r.Intn(10) == 0 {
		return b.r.Intn(b.m.pages+6) - 3
	}
	if l := slices.Sorted(maps.Keys(b.m.now.pages)); len(l) > 0 && b.r.Intn(6) > 0 {
		return l[b.r.Intn(len(l))]
	}
	return b.r.Intn(b.m.pages)
}

// change does something to both that asks nothing of the disk, and tells it.
func (b both) change() string {
	page := b.page()
	switch b.r.Intn(8) {
	case 0, 1:
		got, e := b.p.Alloc()
		w, f := b.m.alloc()
		b.same("Alloc", fmt.Sprint(got, e), fmt.Sprint(w, f))
		return fmt.Sprint("Alloc ", got, e)
	case 2:
		e := b.p.Free(page)
		b.same("Free", fmt.Sprint(page, e), fmt.Sprint(page, b.m.free(page)))
		return fmt.Sprint("Free ", page, e)
	case 3:
		i, n := b.r.Intn(6)-1, int64(b.r.Intn(3)-1)<<b.r.Intn(60)
		if i >= 0 && i < 4 && b.r.Intn(3) > 0 {
			n = b.m.was.words[i]
		}
		e := b.p.SetWord(i, n)
		b.same("SetWord", fmt.Sprint(i, e), fmt.Sprint(i, b.m.setWord(i, n)))
		return fmt.Sprint("SetWord ", i, n, e)
	case 4:
		if b.r.Intn(4) == 0 {
			b.same("Abort", fmt.Sprint(b.p.Abort()), fmt.Sprint(b.m.abort()))
		}
		return "perhaps Abort"
	}
	c := some(b.r.Intn(1<<b.r.Intn(10)), byte(b.r.Intn(256)))
	e := b.p.Set(page, c)
	b.same("Set", fmt.Sprint(page, e), fmt.Sprint(page, b.m.set(page, c)))
	return fmt.Sprint("Set ", page, len(c), e)
}

func (b both) same(what, got, w string) {
	b.t.Helper()
	if got != w {
		b.t.Fatalf("%s: got %s, want %s", what, got, w)
	}
	b.counts(what)
}

func (b both) counts(what string) {
	b.t.Helper()
	wantCounts(b.t, what, b.p, b.m.pages, b.m.pages-1-len(b.m.now.pages), len(b.m.staged), false)
}

// ask gets one page of both, and all of them now and then.
func (b both) ask() string {
	page := b.page()
	w, is := b.m.now.pages[page]
	e := api.OK
	if !is {
		e = api.ErrNone
	}
	wantGet(b.t, b.p, page, w, e)
	if b.r.Intn(30) == 0 {
		wantView(b.t, "all", b.p, b.m.now)
	}
	b.counts("Get")
	return fmt.Sprint("Get ", page, len(w), e, b.p.Held())
}

// commitLogged commits both, without a crash, and holds what the log got.
func (b both) commitLogged() {
	b.t.Helper()
	records := b.m.records()
	_, _, ahead, _ := wal.Open(b.d)
	e := b.p.Commit()
	b.same("Commit", fmt.Sprint(e), fmt.Sprint(b.m.commit()))
	_, _, behind, _ := wal.Open(b.d)
	if e != api.OK || records == nil {
		b.same("a commit that is none", fmt.Sprintf("%q", behind), fmt.Sprintf("%q", ahead))
		return
	}
	b.same("what was committed", fmt.Sprintf("%q", behind[len(behind)-1]), fmt.Sprintf("%q", records))
}

// P7.2 to P7.4, P7.7, R4: long ways of pages, without crashes, held against the model; the same calls again answer the same.
func TestLongWays(t *testing.T) {
	run := func(seed int64) string {
		r := rand.New(rand.NewSource(seed))
		slots, pages, pool := 1+r.Intn(20), 2+r.Intn(40), 8+r.Intn(4)
		d := formatted(t, slots, pages)
		b := both{t, r, d, open(t, d, pool), newModel(slots, pages, pool)}
		way := ""
		for range 400 {
			switch r.Intn(12) {
			case 0, 1:
				b.commitLogged()
				wantFlushed(t, "Commit", d)
			case 2:
				want(t, "Checkpoint", b.p.Checkpoint(), api.OK)
				wantFlushed(t, "Checkpoint", d)
			case 3:
				if r.Intn(4) == 0 {
					b.p = open(t, d, pool)
					b.m.abort()
				}
			case 4, 5, 6:
				way += b.ask()
			default:
				way += b.change()
			}
			b.counts("a step")
			way += fmt.Sprintln(b.p.Left(), b.p.Staged(), b.p.Held())
		}
		wantView(t, "at last", b.p, b.m.now)
		wantReopened(t, "at last", d, b.m.was)
		return way + fmt.Sprint(look(d))
	}
	for seed := range int64(150) {
		if run(seed) != run(seed) {
			t.Errorf("seed %d: not the same again", seed)
		}
	}
}

// commit commits both, or makes a checkpoint, perhaps with a crash in the midst; it tells whether there was one, and whether what was under way is there.
func (b *both) commit(checkpoint bool) (crashed, there bool) {
	b.t.Helper()
	e, w := api.OK, b.m.was
	if checkpoint {
		e = b.p.Checkpoint()
	} else {
		e, w = b.p.Commit(), b.m.now
	}
	if e != api.ErrDown {
		if checkpoint {
			want(b.t, "Checkpoint", e, api.OK)
		} else {
			want(b.t, "Commit", e, b.m.commit())
		}
		b.counts("no crash")
		return false, false
	}
	someStart(b.t, b.r, b.d)
	want(b.t, "SetFuse", b.d.SetFuse(0), api.OK)
	b.p = open(b.t, b.d, b.m.pool)
	got := viewOf(b.t, "behind a crash", b.p).text()
	there = got == w.text()
	if !there && got != b.m.was.text() {
		b.t.Fatalf("behind a crash: %s; want %s or %s", got, b.m.was.text(), w.text())
	}
	if there && !checkpoint {
		b.m.settle()
	}
	b.m.abort()
	return true, there
}

// P7.5: long ways of pages with crashes at any call, again and again: what was committed is there, and of what was being committed all or nothing.
func TestLongWaysWithCrashes(t *testing.T) {
	var old, new int
	for seed := range int64(150) {
		r := rand.New(rand.NewSource(seed))
		slots, pages := 1+r.Intn(12), 2+r.Intn(20)
		d := formatted(t, slots, pages)
		b := &both{t, r, d, open(t, d, 8), newModel(slots, pages, 8)}
		for range 120 {
			for range r.Intn(6) {
				b.change()
				b.ask()
			}
			if r.Intn(3) == 0 {
				want(t, "SetFuse", d.SetFuse(r.Intn(30)), api.OK)
			}
			if crashed, there := b.commit(r.Intn(4) == 0); there {
				new++
			} else if crashed {
				old++
			}
		}
		want(t, "SetFuse", d.SetFuse(0), api.OK)
		wantReopened(t, "at last", d, b.m.was)
	}
	if old < 100 || new < 100 {
		t.Errorf("%d crashes left what was, %d what should be", old, new)
	}
}
