package btree

import (
	"math"
	"testing"

	"ramble/api"
	"ramble/disk"
	"ramble/pager"
)

// P9.1: the words from 0 to MaxWords less 1, and no others.
func TestOpenWords(t *testing.T) {
	p := pagesOf(t, laid(t, 100, 60), 60)
	for word, w := range map[int]api.Errno{
		-1: api.ErrArg, 0: api.OK, 1: api.OK, api.MaxWords - 1: api.OK, api.MaxWords: api.ErrArg,
		math.MinInt: api.ErrArg, math.MaxInt: api.ErrArg,
	} {
		x, e := Open(p, word)
		if e != w || (x == nil) != (w != api.OK) {
			t.Errorf("Open of the word %d: %v, %d; want %d", word, x != nil, e, w)
		}
	}
}

// brokenPages is pages whose disk lost its power, as they are asked.
func brokenPages(t testing.TB, d *disk.Disk, p *pager.Pager) {
	t.Helper()
	want(t, "Crash", d.Crash(-1), api.OK)
	want(t, "Checkpoint", p.Checkpoint(), api.ErrDown)
	if !p.Broken() {
		t.Fatal("not broken")
	}
}

// P9.1, R1: what was not made, then the word, then a broken pager.
func TestOpenErrorsInOrder(t *testing.T) {
	d := laid(t, 100, 60)
	broken := pagesOf(t, d, 60)
	brokenPages(t, d, broken)
	for _, c := range []struct {
		what string
		p    *pager.Pager
		word int
		e    api.Errno
	}{
		{"nil", nil, 0, api.ErrMade},
		{"nil and a word that is none", nil, -1, api.ErrMade},
		{"zero", new(pager.Pager), 3, api.ErrMade},
		{"zero and a word that is none", new(pager.Pager), 4, api.ErrMade},
		{"broken and a word that is none", broken, 4, api.ErrArg},
		{"broken and a word below", broken, -1, api.ErrArg},
		{"broken", broken, 0, api.ErrBroken},
	} {
		if x, e := Open(c.p, c.word); x != nil || e != c.e {
			t.Errorf("%s: %v, %d; want %d", c.what, x != nil, e, c.e)
		}
	}
}

// P9.1: the tree is the one whose root its word says, and no other word's.
func TestOpenTakesItsWord(t *testing.T) {
	p, _ := crafted(t, 20, sheets{3: leafOf("a"), 5: leafOf("b")}, 3)
	want(t, "SetWord", p.SetWord(0, 5), api.OK)
	wantGet(t, treeOf(t, p, 2), "a", "", api.OK)
	wantGet(t, treeOf(t, p, 2), "b", "", api.ErrNone)
	wantGet(t, treeOf(t, p, 0), "b", "", api.OK)
	wantGet(t, treeOf(t, p, 1), "a", "", api.ErrNone)
}

// P9.1: Open looks at no page; what asks one that is no node answers ErrTree.
func TestOpenLooksAtNothing(t *testing.T) {
	for _, root := range []int64{1, 2, 3, 19, 20, api.MaxPages - 1, api.MaxPages, -1, math.MinInt64, math.MaxInt64, 1 << 32, 1<<32 + 1, 1<<63 - 1<<32 + 1} {
		p, x := crafted(t, 20, sheets{1: "", 2: "no node"}, root)
		before := image(t, p)
		wantGet(t, x, "a", "", api.ErrTree)
		want(t, "Put", put(t, x, "a", "b"), api.ErrTree)
		if is, e := del(t, x, "a"); is || e != api.ErrTree {
			t.Fatalf("root %d: Delete: %v, %d", root, is, e)
		}
		if l := all(t, x, "", ""); l != nil {
			t.Fatalf("root %d: All: %v", root, l)
		}
		wantAt(t, "Seek", seek(t, x, ""), "", "")
		wantAt(t, "Last", x.Last(), "", "")
		if keys, pages, e := x.Check(); keys != 0 || pages != 0 || e != api.ErrTree {
			t.Fatalf("root %d: Check: %d, %d, %d", root, keys, pages, e)
		}
		if image(t, p) != before {
			t.Fatalf("root %d: the pages have changed", root)
		}
	}
}

// P9.1 to P9.3: of a pager that broke meanwhile every call tells so, behind what is wrong with its arguments.
func TestBrokenPager(t *testing.T) {
	r := newRig(t, 300, 100)
	r.put("a", "1")
	r.put("b", some(100, 1))
	r.commit()
	c := seek(t, r.x, "a")
	brokenPages(t, r.d, r.p)
	for key, w := range map[string]api.Errno{"": api.ErrKey, some(97, 1): api.ErrKey, "a": api.ErrBroken, "c": api.ErrBroken} {
		wantGet(t, r.x, key, "", w)
		want(t, "Put", put(t, r.x, key, "1"), w)
		if is, e := del(t, r.x, key); is || e != w {
			t.Errorf("Delete of %q: %v, %d", key, is, e)
		}
	}
	want(t, "Put of much", put(t, r.x, "a", some(4097, 1)), api.ErrLong)
	if l := all(t, r.x, "", ""); l != nil {
		t.Errorf("All: %v", l)
	}
	wantAt(t, "Seek", seek(t, r.x, ""), "", "")
	wantAt(t, "Last", r.x.Last(), "", "")
	if keys, pages, e := r.x.Check(); keys != 0 || pages != 0 || e != api.ErrBroken {
		t.Errorf("Check: %d, %d, %d", keys, pages, e)
	}
	if keyOf(t, c) != "a" {
		t.Error("a cursor forgot its key")
	}
	if v, e := c.Val(); v != nil || e != api.ErrBroken {
		t.Errorf("Val: %q, %d", v, e)
	}
	if c.Next() || keyOf(t, c) != "" || c.Prev() {
		t.Error("a cursor went on")
	}
}
