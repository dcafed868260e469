package pager

import (
	"fmt"
	"testing"

	"ramble/api"
)

// many is pages of which the first ones have so many bytes each, that differ, in the log or in their sectors.
func many(t testing.TB, count int, inLog bool) (*Pager, view) {
	t.Helper()
	d := formatted(t, 200, 60)
	p := open(t, d, api.MinPool)
	w := texts()
	for page := 1; page <= count; page++ {
		alloc(t, p, page)
		set(t, p, page, some(7*page, byte(page)))
		w.pages[page] = string(some(7*page, byte(page)))
		if page%5 == 0 {
			want(t, "Commit", p.Commit(), api.OK)
		}
	}
	want(t, "Commit", p.Commit(), api.OK)
	if !inLog {
		want(t, "Checkpoint", p.Checkpoint(), api.OK)
	}
	return p, w
}

// P7.4: of far more pages than the pool has room for all are told, from the log and from the sectors, and no more are held than may be.
func TestHeldIsBounded(t *testing.T) {
	for _, inLog := range []bool{true, false} {
		p, w := many(t, 40, inLog)
		for range 3 {
			wantView(t, "many", p, w)
			if p.Held() != 8 {
				t.Fatalf("%d held", p.Held())
			}
		}
		for page := 40; page > 0; page -= 3 {
			wantGet(t, p, page, w.pages[page], api.OK)
			set(t, p, page, []byte("new"))
			wantHeld(t, "Set", p)
			wantGet(t, p, (page+20)%40+1, w.pages[(page+20)%40+1], api.OK)
			wantHeld(t, "Get", p)
			want(t, "Abort", p.Abort(), api.OK)
			wantHeld(t, "Abort", p)
		}
		wantView(t, "many", p, w)
	}
}

// P7.4: where all that may be held is staged, others are told all the same, and not held.
func TestHeldWhereAllIsStaged(t *testing.T) {
	for _, inLog := range []bool{true, false} {
		p, w := many(t, 20, inLog)
		for page := 1; page <= 8; page++ {
			set(t, p, page, []byte("new"))
			w.pages[page] = "new"
			wantHeld(t, "Set", p)
		}
		for range 2 {
			wantView(t, "staged", p, w)
			wantCounts(t, "staged", p, 60, 39, 8, false)
		}
		want(t, "Checkpoint", p.Checkpoint(), api.OK)
		wantView(t, "Checkpoint", p, w)
		want(t, "Commit", p.Commit(), api.OK)
		wantHeld(t, "Commit", p)
		wantView(t, "Commit", p, w)
	}
}

// P7.4: what is freed is held no more; what is aborted neither, unless it is read again.
func TestHeldNoMore(t *testing.T) {
	_, p := settled(t, 20, 12, "a", "b", "c")
	wantView(t, "read", p, texts("a", "b", "c"))
	if p.Held() != 3 {
		t.Fatalf("%d held", p.Held())
	}
	want(t, "Free", p.Free(1), api.OK)
	if p.Held() != 2 {
		t.Fatalf("%d held behind Free", p.Held())
	}
	alloc(t, p, 1)
	alloc(t, p, 4)
	if p.Held() != 4 || p.Staged() != 2 {
		t.Fatalf("%d held, %d staged", p.Held(), p.Staged())
	}
	want(t, "Abort", p.Abort(), api.OK)
	if p.Held() != 2 || p.Staged() != 0 {
		t.Fatalf("%d held, %d staged behind Abort", p.Held(), p.Staged())
	}
}

// P7.4: a pool of each size that may be holds so many pages, and no more.
func TestHeldOfPools(t *testing.T) {
	for _, pool := range []int{8, 9, 100, 255, 256} {
		d := formatted(t, 300, 300)
		p := open(t, d, pool)
		for page := 1; page <= pool; page++ {
			alloc(t, p, page)
			if p.Held() != page || p.Staged() != page {
				t.Fatalf("a pool of %d: %d held, %d staged; want %d", pool, p.Held(), p.Staged(), page)
			}
		}
		if _, e := p.Alloc(); e != api.ErrPool {
			t.Fatalf("a pool of %d: Alloc: %d", pool, e)
		}
		want(t, "Commit", p.Commit(), api.OK)
		alloc(t, p, pool+1)
		wantCounts(t, fmt.Sprint("a pool of ", pool), p, 300, 299-pool-1, 1, false)
		if p.Held() != pool || p.Pool() != pool {
			t.Fatalf("a pool of %d: %d held", p.Pool(), p.Held())
		}
	}
}

// P7.3, P7.4: a commit of as many pages as the greatest pool has; each of them is read from the log again.
func TestHeldOfTheGreatestCommit(t *testing.T) {
	d := formatted(t, api.MaxSlots, 300)
	p := open(t, d, api.MaxPool)
	w := texts()
	for page := 1; page <= api.MaxPool; page++ {
		alloc(t, p, page)
		set(t, p, page, some(page%449, byte(page)))
		w.pages[page] = string(some(page%449, byte(page)))
	}
	want(t, "SetWord", p.SetWord(0, -9), api.OK)
	w.words[0] = -9
	want(t, "Commit", p.Commit(), api.OK)
	for page := 1; page <= api.MaxPool; page++ {
		set(t, p, page, nil)
	}
	want(t, "Abort", p.Abort(), api.OK)
	if p.Held() != 0 {
		t.Fatalf("%d held", p.Held())
	}
	wantView(t, "read from the log", p, w)
	wantReopened(t, "opened", d, w)
}
