package pager

import (
	"testing"

	"ramble/api"
)

// refusals is calls that are refused where the page 2 is free, the page 3 is damaged, and more is staged than the log has room for.
func refusals() map[string]func(p *Pager) api.Errno {
	return map[string]func(p *Pager) api.Errno{
		"Get of 0":        func(p *Pager) api.Errno { _, e := p.Get(0); return e },
		"Get of a free":   func(p *Pager) api.Errno { _, e := p.Get(2); return e },
		"Get beyond":      func(p *Pager) api.Errno { _, e := p.Get(20); return e },
		"Get of damage":   func(p *Pager) api.Errno { _, e := p.Get(3); return e },
		"Set of 0":        func(p *Pager) api.Errno { return p.Set(0, nil) },
		"Set of a free":   func(p *Pager) api.Errno { return p.Set(2, []byte("x")) },
		"Set beyond":      func(p *Pager) api.Errno { return p.Set(-1, nil) },
		"Set of too much": func(p *Pager) api.Errno { return p.Set(1, some(449, 1)) },
		"Free of 0":       func(p *Pager) api.Errno { return p.Free(0) },
		"Free of a free":  func(p *Pager) api.Errno { return p.Free(2) },
		"Free beyond":     func(p *Pager) api.Errno { return p.Free(1 << 40) },
		"Word of -1":      func(p *Pager) api.Errno { _, e := p.Word(-1); return e },
		"SetWord of -1":   func(p *Pager) api.Errno { return p.SetWord(-1, 1) },
		"SetWord of 4":    func(p *Pager) api.Errno { return p.SetWord(4, 1) },
		"Commit of much":  func(p *Pager) api.Errno { return p.Commit() },
	}
}

// P7.7: a refused call changes nothing of what is asked, nor of what stands on the disk.
func TestRefused(t *testing.T) {
	d, p := settled(t, 12, 20, "a", "b", "c")
	turn(t, d, 2+12+12, 200, 5)
	set(t, p, 1, some(448, 1))
	for page := 4; page <= 6; page++ {
		alloc(t, p, page)
		set(t, p, page, some(448, byte(page)))
	}
	want(t, "Free", p.Free(2), api.OK)
	want(t, "SetWord", p.SetWord(0, 9), api.OK)
	before, held := look(d), p.Held()
	for what, do := range refusals() {
		if e := do(p); e == api.OK {
			t.Fatalf("%s: OK", what)
		}
		wantSame(t, what, d, before)
		wantCounts(t, what, p, 20, 14, 4, false)
		if p.Held() != held {
			t.Fatalf("%s: %d held, want %d", what, p.Held(), held)
		}
		for _, page := range []int{1, 4, 5, 6} {
			wantGet(t, p, page, string(some(448, byte(page))), api.OK)
		}
		wantGet(t, p, 2, "", api.ErrNone)
		wantWord(t, p, 0, 9, api.OK)
	}
	want(t, "Abort", p.Abort(), api.OK)
	wantGet(t, p, 1, "a", api.OK)
	wantGet(t, p, 2, "b", api.OK)
	wantWord(t, p, 0, 0, api.OK)
}

// P7.7: Alloc and Set that the pool has no room for, and Alloc of no page, change nothing.
func TestRefusedByPool(t *testing.T) {
	d, p := filled(t, 12, 10, "1", "2")
	for page := 3; page <= 9; page++ {
		alloc(t, p, page)
	}
	set(t, p, 2, []byte("two"))
	before := look(d)
	if _, e := p.Alloc(); e != api.ErrFull {
		t.Fatal("Alloc", e)
	}
	want(t, "Free", p.Free(9), api.OK)
	set(t, p, 1, []byte("one"))
	if _, e := p.Alloc(); e != api.ErrPool {
		t.Fatal("Alloc", e)
	}
	want(t, "Free", p.Free(8), api.OK)
	alloc(t, p, 8)
	wantSame(t, "refused", d, before)
	wantCounts(t, "refused", p, 10, 1, 8, false)
	want(t, "Commit", p.Commit(), api.OK)
	wantReopened(t, "refused", d, texts("one", "two", "", "", "", "", "", ""))
}
