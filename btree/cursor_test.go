package btree

import (
	"fmt"
	"math/rand"
	"strings"
	"testing"

	"ramble/api"
)

// P9.3: Seek stands at the first key that is not below; Next and Prev go from there, to either end and no further.
func TestSeek(t *testing.T) {
	for _, n := range []int{0, 1, 2, 70} {
		r := filled(t, n)
		l := r.entries("", "")
		edges := []string{"", "\x00", "a", "k", "l", "\xff", some(300, 250)}
		for i := range 2*n + 2 {
			edges = append(edges, fmt.Sprintf("k%03d", i), fmt.Sprintf("k%03d\x00", i))
		}
		for _, key := range edges {
			at := len(l) - len(r.entries(key, ""))
			r.wantPlace("Seek", seek(t, r.x, key), l, at)
			c := seek(t, r.x, key)
			if is := c.Next(); is != (at+1 < len(l)) {
				t.Fatalf("Seek of %q, and Next: %v", key, is)
			}
			r.wantPlace("Next", c, l, min(at+1, len(l)))
			c = seek(t, r.x, key)
			if is := c.Prev(); is != (at > 0 && at < len(l)) {
				t.Fatalf("Seek of %q, and Prev: %v", key, is)
			}
			if at == len(l) {
				at = -1
			}
			r.wantPlace("Prev", c, l, at-1)
		}
	}
}

// wantPlace holds that a cursor stands at a place of a list, or, if that is none, nowhere.
func (r *rig) wantPlace(what string, c *Cursor, l []entry, at int) {
	r.t.Helper()
	var x entry
	if at >= 0 && at < len(l) {
		x = l[at]
	}
	wantAt(r.t, what, c, x.key, x.val)
}

// P9.3: in an empty tree a cursor stands nowhere, and goes nowhere, even if there are keys then.
func TestCursorOfNothing(t *testing.T) {
	r := newRig(t, 300, 100)
	for _, c := range []*Cursor{seek(t, r.x, ""), seek(t, r.x, "a"), r.x.Last()} {
		wantAt(t, "empty", c, "", "")
		if c.Next() || c.Prev() {
			t.Fatal("it went on")
		}
		r.put("a", "1")
		wantAt(t, "with a key", c, "", "")
		if c.Next() || c.Prev() {
			t.Fatal("it went on")
		}
		wantAt(t, "with a key", c, "", "")
		r.del("a")
	}
}

// P9.3: behind either end a cursor stands nowhere, and does not come back.
func TestCursorAtTheEnds(t *testing.T) {
	r := filled(t, 50)
	for what, step := range map[string]func(c *Cursor) bool{"Next": (*Cursor).Next, "Prev": (*Cursor).Prev} {
		c := r.x.Last()
		if what == "Prev" {
			c = seek(t, r.x, "")
		}
		if step(c) {
			t.Fatalf("%s behind the end", what)
		}
		for range 2 {
			wantAt(t, what, c, "", "")
			if c.Next() || c.Prev() {
				t.Fatalf("%s behind the end: it came back", what)
			}
		}
	}
}

// P9.3: a cursor keeps its key where that was deleted: it has no value, and Next and Prev go on from there.
func TestCursorAtADeletedKey(t *testing.T) {
	for at := range 60 {
		r := filled(t, 60)
		l := r.entries("", "")
		key := l[at].key
		c, back := seek(t, r.x, key), seek(t, r.x, key)
		r.del(key)
		for _, one := range []*Cursor{c, back} {
			if got := keyOf(t, one); got != key {
				t.Fatalf("at %q, want %q", got, key)
			}
			if v, e := one.Val(); v != nil || e != api.ErrNone {
				t.Fatalf("Val: %q, %d", v, e)
			}
		}
		if is := c.Next(); is != (at+1 < len(l)) {
			t.Fatalf("Next: %v", is)
		}
		r.wantPlace("Next", c, l, at+1)
		if is := back.Prev(); is != (at > 0) {
			t.Fatalf("Prev: %v", is)
		}
		r.wantPlace("Prev", back, l, at-1)
		r.put(key, "again")
		c = seek(t, r.x, key)
		r.put(key, some(700, at))
		wantAt(t, "put anew", c, key, some(700, at))
	}
}

// P9.3: a cursor goes its way over a tree that changes, and over Abort and Commit.
func TestCursorWhileChanging(t *testing.T) {
	rnd := rand.New(rand.NewSource(3))
	r := filled(t, 60)
	c, key := r.x.Last(), "k118"
	for i := range 3000 {
		other := fmt.Sprintf("k%03d", rnd.Intn(130))
		switch rnd.Intn(4) {
		case 0:
			r.put(other, some(rnd.Intn(150), i))
		case 1:
			r.del(other)
		}
		if r.p.Staged() > 100 {
			r.commit()
		}
		if key == "" {
			c, key = seek(t, r.x, other), ""
			if l := r.entries(other, ""); len(l) > 0 {
				key = l[0].key
			}
			continue
		}
		l, is := r.entries(key+"\x00", ""), false
		if rnd.Intn(2) == 0 {
			is = c.Next()
		} else {
			is, l = c.Prev(), nil
			if below := r.entries("", key); len(below) > 0 {
				l = below[len(below)-1:]
			}
		}
		if key = ""; len(l) > 0 {
			key = l[0].key
		}
		if got := keyOf(t, c); got != key || is != (key != "") {
			t.Fatalf("at %q, %v; want %q", got, is, key)
		}
	}
}

// P9.3, Ways: a cursor has its tree's calls.
func TestCursorHasTheTree(t *testing.T) {
	r := filled(t, 30)
	c := seek(t, r.x, "k010")
	want(t, "Put", c.Put([]byte("k011"), []byte("new")), api.OK)
	r.m["k011"] = "new"
	r.same("put by a cursor")
	if is, e := c.Delete([]byte("k010")); !is || e != api.OK {
		t.Errorf("Delete: %v, %d", is, e)
	}
	delete(r.m, "k010")
	r.same("deleted by a cursor")
	if v, e := c.Get([]byte("k011")); string(v) != "new" || e != api.OK {
		t.Errorf("Get: %q, %d", v, e)
	}
	wantAt(t, "Seek", c.Seek([]byte("k011")), "k011", "new")
	wantAt(t, "Last", c.Last(), "k058", r.m["k058"])
	if n, _, e := c.Check(); n != len(r.m) || e != api.OK {
		t.Errorf("Check: %d, %d", n, e)
	}
	n := 0
	for range c.All(nil, nil) {
		n++
	}
	if n != len(r.m) || keyOf(t, c) != "k010" {
		t.Errorf("told %d, at %q", n, keyOf(t, c))
	}
}

// P9.3: the last key may be as great as any can be.
func TestGreatestKey(t *testing.T) {
	r := newRig(t, 300, 100)
	for length := 1; length <= api.MaxKey; length++ {
		r.put(strings.Repeat("\xff", length), "")
		r.same("a greater one")
	}
}

// R3: the keys and values that a cursor tells are not its own.
func TestCursorSharesNothing(t *testing.T) {
	r := filled(t, 30)
	c := seek(t, r.x, "k010")
	a, _ := c.Key()
	b, _ := c.Key()
	spoil(a)
	if string(b) != "k010" {
		t.Fatal("two answers are one")
	}
	spoil(b)
	wantAt(t, "spoilt", c, "k010", r.m["k010"])
	wantAt(t, "spoilt", c, "k010", r.m["k010"])
	if !c.Next() {
		t.Fatal("Next")
	}
	wantAt(t, "Next", c, "k012", r.m["k012"])
	r.same("spoilt")
}

// P9.3: with an error of the pages a cursor stands nowhere.
func TestCursorWithAnError(t *testing.T) {
	p, x := crafted(t, 20, sheets{
		1: innerOf([]int{2, 3, 4}, "d", "g"),
		2: leafOf("a", "b"),
		3: "no node",
		4: leafOf("g", "h"),
	}, 1)
	c := seek(t, x, "b")
	wantAt(t, "Seek", c, "b", "")
	if c.Next() {
		t.Error("Next passed over a page that is no node")
	}
	wantAt(t, "Next", c, "", "")
	c = seek(t, x, "g")
	if c.Prev() {
		t.Error("Prev passed over a page that is no node")
	}
	wantAt(t, "Prev", c, "", "")
	wantAt(t, "Seek", seek(t, x, "c"), "", "")
	wantAt(t, "Seek", seek(t, x, "e"), "", "")
	wantAt(t, "Last", x.Last(), "h", "")
	c = seek(t, x, "a")
	want(t, "Free", p.Free(2), api.OK)
	if keyOf(t, c) != "a" {
		t.Error("a cursor forgot its key")
	}
	if v, e := c.Val(); v != nil || e != api.ErrTree {
		t.Errorf("Val: %q, %d", v, e)
	}
}
