package btree

import (
	"fmt"
	"slices"
	"testing"

	"ramble/api"
	"ramble/pager"
)

// filled is a tree of so many keys "k000", "k002", .., every second number, with values of all lengths, committed.
func filled(t testing.TB, n int) *rig {
	t.Helper()
	r := newRig(t, api.MaxSlots, 600)
	for i := range n {
		r.put(fmt.Sprintf("k%03d", 2*i), some(i*29%150, i))
		if r.p.Staged() > 150 {
			r.commit()
		}
	}
	r.commit()
	return r
}

// P9.3, P9.8: from any key to any other: at, between, below and above the keys that there are; nothing at all, if from is above to.
func TestAllBetween(t *testing.T) {
	for _, n := range []int{0, 1, 2, 40} {
		r := filled(t, n)
		edges := []string{"", "\x00", "a", "k", "k0", "l", "\xff", some(200, 250), "k" + some(200, 1)}
		for i := range 2*n + 1 {
			edges = append(edges, fmt.Sprintf("k%03d", i))
		}
		edges = append(edges, "k000\x00", "k004\x00", "k004\xff", "k00")
		for _, from := range edges {
			for _, to := range edges {
				if got, w := all(t, r.x, from, to), r.entries(from, to); !slices.Equal(got, w) {
					t.Fatalf("%d keys, All from %q to %q: %s; want %s", n, from, to, tell(got), tell(w))
				}
			}
		}
	}
}

// P9.3: the example of the chapter.
func TestExample(t *testing.T) {
	r := newRig(t, 100, 50)
	for _, k := range []string{"b", "a", "c"} {
		r.put(k, "")
	}
	if got := tell(all(t, r.x, "", "")); got != `"a":0 "b":0 "c":0 ` {
		t.Error(got)
	}
	c := seek(t, r.x, "b")
	wantAt(t, "Seek", c, "b", "")
	if !c.Prev() {
		t.Error("Prev")
	}
	wantAt(t, "Prev", c, "a", "")
}

// P9.3: All that is left early asks no more; gone through again, it begins anew, with what there is then.
func TestAllLeftEarly(t *testing.T) {
	r := filled(t, 60)
	seq := r.x.All([]byte("k010"), []byte("k100"))
	for stop := range 46 {
		n := 0
		for k := range seq {
			if got, w := string(k), fmt.Sprintf("k%03d", 10+2*n); got != w {
				t.Fatalf("got %s, want %s", got, w)
			}
			n++
			if n == stop {
				break
			}
		}
		if stop > 0 && n != stop || stop == 0 && n != 45 {
			t.Fatalf("left behind %d, told %d", stop, n)
		}
	}
	r.put("k011", "new")
	r.del("k010")
	for k, v := range seq {
		if string(k) != "k011" || string(v) != "new" {
			t.Fatalf("got %q, %q", k, v)
		}
		break
	}
}

// P9.3: two that go through one tree, one within the other, do not meet.
func TestAllWithinAll(t *testing.T) {
	r := filled(t, 25)
	n := 0
	for k := range r.x.All(nil, nil) {
		for l := range r.x.All(k, nil) {
			if string(l) < string(k) {
				t.Fatalf("%q is below %q", l, k)
			}
			n++
		}
	}
	if n != 25*26/2 {
		t.Errorf("told %d", n)
	}
}

// P9.3: if the tree changes meanwhile, All goes on with what is behind the last key that it told.
func TestAllWhileChanging(t *testing.T) {
	changes := map[string]func(r *rig, i int, key string){
		"delete the one that was told": func(r *rig, i int, key string) { r.del(key) },
		"delete the next one":          func(r *rig, i int, key string) { r.del(fmt.Sprintf("k%03d", 2*i+2)) },
		"delete three, and put one": func(r *rig, i int, key string) {
			r.del(key)
			r.del(key[:3] + "4")
			r.del(key[:3] + "6")
			r.putSome(i, key+"a", "")
		},
		"put one ahead":                 func(r *rig, i int, key string) { r.put("a"+key, some(60, i)) },
		"put one just behind, at times": func(r *rig, i int, key string) { r.putSome(i, key+"\x00", some(60, i)) },
		"put the next one anew":         func(r *rig, i int, key string) { r.put(fmt.Sprintf("k%03d", min(2*i+2, 118)), some(500, i)) },
		"put one at the end":            func(r *rig, i int, key string) { r.putSome(i, "z"+key, some(65, i)) },
		"delete all of them": func(r *rig, i int, key string) {
			for _, x := range r.entries("", "") {
				r.del(x.key)
			}
		},
		"delete all but the last ones": func(r *rig, i int, key string) {
			for _, x := range r.entries("", "k110") {
				r.del(x.key)
			}
		},
		"commit":      func(r *rig, i int, key string) { r.commit() },
		"change none": func(r *rig, i int, key string) {},
	}
	for what, change := range changes {
		t.Run(what, func(t *testing.T) {
			r := filled(t, 60)
			last, i := "", 0
			for k, v := range r.x.All(nil, nil) {
				next := r.entries(last+"\x00", "")
				if len(next) == 0 || next[0] != (entry{string(k), string(v)}) {
					t.Fatalf("behind %q: %q", last, k)
				}
				last = told(k)
				change(r, i, last)
				if i++; i > 400 {
					t.Fatal("it goes on without an end")
				}
			}
			if next := r.entries(last+"\x00", ""); len(next) > 0 {
				t.Fatalf("it ended at %q, ahead of %q", last, next[0].key)
			}
			r.same(what)
		})
	}
}

// putSome puts a key, but not always, so that what is put behind the last one comes to an end.
func (r *rig) putSome(i int, key, val string) {
	r.t.Helper()
	if i%3 == 0 && len(key) < 9 {
		r.put(key, val)
	}
}

// P9.3: an Abort in the midst: it goes on with what was committed.
func TestAllOverAbort(t *testing.T) {
	r := filled(t, 20)
	r.x.Put([]byte("k007"), nil)
	r.x.Put([]byte("k013"), nil)
	r.x.Delete([]byte("k030"))
	var l []string
	for k := range r.x.All([]byte("k006"), []byte("k032")) {
		l = append(l, string(k))
		if string(k) == "k010" {
			want(t, "Abort", r.p.Abort(), api.OK)
		}
	}
	if got := fmt.Sprint(l); got != "[k006 k007 k008 k010 k012 k014 k016 k018 k020 k022 k024 k026 k028 k030]" {
		t.Error(got)
	}
}

// R3: All keeps none of the bytes that it is handed, and those that it tells are not its own.
func TestAllKeepsNothing(t *testing.T) {
	r := filled(t, 30)
	from, to := []byte("k010"), []byte("k020")
	seq := r.x.All(from, to)
	copy(from, "zzzz")
	copy(to, "aaaa")
	n := 0
	for k, v := range seq {
		if string(k) != fmt.Sprintf("k%03d", 10+2*n) {
			t.Fatalf("got %q", k)
		}
		spoil(k)
		spoil(v)
		n++
	}
	if n != 5 {
		t.Errorf("told %d", n)
	}
	r.same("spoilt")
}

// P9.3: with an error of the pages it ends, and tells nothing of what is behind.
func TestAllEndsWithAnError(t *testing.T) {
	whole := sheets{
		1: innerOf([]int{2, 3, 4}, "d", "g"),
		2: leafOf("a", "b"),
		3: leafOf("d", "e"),
		4: leafOf("g", "h"),
	}
	overOf := func(over int) api.Node {
		n := leafOf("d", "e")
		n.Cells[1].Over, n.Cells[1].Len = over, 100
		return n
	}
	for _, c := range []struct {
		what  string
		page  int
		sheet any
		keys  string
	}{
		{"all is well", 2, whole[2], "[a b d e g h]"},
		{"the root is no node", 1, "x", "[]"},
		{"the first leaf is no node", 2, "", "[]"},
		{"the second leaf is no node", 3, "\x03", "[a b]"},
		{"the last leaf is no node", 4, "x", "[a b d e]"},
		{"a value's page is free", 3, overOf(9), "[a b d]"},
		{"a value's page is a leaf", 3, overOf(2), "[a b d]"},
	} {
		p, x := crafted(t, 20, whole, 1)
		want(t, "Set", p.Set(c.page, bytesOf(t, c.sheet)), api.OK)
		l := []string{}
		for k := range x.All(nil, nil) {
			l = append(l, string(k))
		}
		if fmt.Sprint(l) != c.keys {
			t.Errorf("%s: %v; want %s", c.what, l, c.keys)
		}
	}
}

// P9.3: it ends where the pages break while it goes on.
func TestAllEndsWhereItBreaks(t *testing.T) {
	r := filled(t, 30)
	n := 0
	for range r.x.All(nil, nil) {
		if n++; n == 7 {
			brokenPages(t, r.d, r.p)
		}
	}
	if n != 7 {
		t.Errorf("told %d", n)
	}
}

// P9.3: a page that is not as it was written ends it, too; and Get and Check tell of it.
func TestDamagedPage(t *testing.T) {
	r := filled(t, 60)
	want(t, "Checkpoint", r.p.Checkpoint(), api.OK)
	l := r.entries("", "")
	way, e := r.x.wayTo([]byte("k060"))
	want(t, "wayTo", e, api.OK)
	at := 2 + api.MaxSlots + 4*way[len(way)-1].page
	want(t, "Burst", r.d.Burst(at, 200, 3), api.OK)
	r.p, e = pager.Open(r.d, 60)
	want(t, "Open", e, api.OK)
	r.x = treeOf(t, r.p, 2)
	wantGet(t, r.x, "k060", "", api.ErrDamage)
	want(t, "Put", put(t, r.x, "k060", "1"), api.ErrDamage)
	if is, e := del(t, r.x, "k061"); is || e != api.ErrDamage {
		t.Errorf("Delete: %v, %d", is, e)
	}
	if _, _, e := r.x.Check(); e != api.ErrDamage {
		t.Errorf("Check: %d", e)
	}
	got := all(t, r.x, "", "")
	if len(got) == 0 || len(got) > 30 || !slices.Equal(got, l[:len(got)]) {
		t.Errorf("All: %s", tell(got))
	}
	wantAt(t, "Seek", seek(t, r.x, "k060"), "", "")
	if got := all(t, r.x, "k100", ""); !slices.Equal(got, r.entries("k100", "")) {
		t.Errorf("behind it: %s", tell(got))
	}
	if r.p.Staged() != 0 {
		t.Error("something is staged")
	}
}
