package btree

import (
	"fmt"
	"strings"
	"testing"

	"ramble/api"
	"ramble/node"
)

// plant is a node that is to be laid by hand: a leaf of keys, or an inner node of kids with keys between them.
type plant struct {
	keys []string
	kids []plant
}

// twig is an inner node over leaves of one key each: the first one, and those that stand between the kids.
func twig(first string, keys ...string) plant {
	x := plant{keys: keys, kids: []plant{{keys: []string{first}}}}
	for _, k := range keys {
		x.kids = append(x.kids, plant{keys: []string{k}})
	}
	return x
}

// lay gives a plant and all below it pages of their own: its page.
func (x plant) lay(l sheets, m map[string]string) int {
	if x.kids == nil {
		for _, k := range x.keys {
			m[k] = ""
		}
		l[len(l)+1] = leafOf(x.keys...)
		return len(l)
	}
	var kids []int
	for _, kid := range x.kids {
		kids = append(kids, kid.lay(l, m))
	}
	l[len(l)+1] = innerOf(kids, x.keys...)
	return len(l)
}

// planted is the tree of a plant, with so many pages free.
func planted(t testing.TB, x plant, free int) *rig {
	t.Helper()
	l, m := sheets{}, map[string]string{}
	root := x.lay(l, m)
	d := laid(t, api.MaxSlots, 1+len(l)+free)
	p := pagesOf(t, d, api.MaxPool)
	layByHand(t, p, l, int64(root))
	r := &rig{t: t, d: d, p: p, x: treeOf(t, p, 2), m: m, word: 2}
	r.same("planted")
	return r
}

// long is a key of MaxKey bytes that begins with s.
func long(s string) string { return s + strings.Repeat("~", api.MaxKey-len(s)) }

// full is a twig for which no page has room with one key more: four of its keys are long, those in its midst among them.
func full(s string) plant {
	keys := []string{s + "00xx"}
	for i := 1; i < 14; i++ {
		key := fmt.Sprintf("%s%02d", s, i)
		if i >= 5 && i < 9 {
			key = long(key)
		}
		keys = append(keys, key)
	}
	return twig(s, keys...)
}

// crown is an inner node over one that is left with one kid, when one of its keys is deleted, and one beside it that is full, ahead of it or behind it; and over more, behind them or ahead of them, so that the first one has no other neighbour.
func crown(ahead bool, more ...string) plant {
	if ahead {
		x := plant{kids: []plant{twig("0", "1")}}
		for _, k := range more {
			x = x.with(long(k), twig(long(k), k+"\x7f"))
		}
		return x.with("a", full("a")).with("b", twig("b", "c"))
	}
	x := plant{kids: []plant{twig("a", "b")}}.with("f", full("f"))
	for _, k := range more {
		x = x.with(long(k), twig(long(k), k+"\x7f"))
	}
	return x
}

// with is x with one more kid, behind a key.
func (x plant) with(key string, kid plant) plant {
	return plant{append(x.keys[:len(x.keys):len(x.keys)], key), append(x.kids[:len(x.kids):len(x.kids)], kid)}
}

// P9.2, P9.5, P9.6: a node that is left with one kid gets others of its neighbour, where one page has no room for both.
func TestShare(t *testing.T) {
	for _, c := range []struct {
		ahead bool
		del   string
	}{{false, "a"}, {false, "b"}, {true, "b"}, {true, "c"}} {
		r := planted(t, crown(c.ahead), 60)
		taken := r.p.Left()
		r.del(c.del)
		r.same(fmt.Sprintf("%v without %s", c.ahead, c.del))
		if r.p.Left() != taken+1 || levels(t, r.x) != 3 {
			t.Errorf("%v without %s: %d pages more are free, %d levels", c.ahead, c.del, r.p.Left()-taken, levels(t, r.x))
		}
		kids := kidsBelowRoot(t, r.x)
		if c.ahead {
			kids = kids[1:]
		}
		if len(kids) != 2 || min(kids[0], kids[1]) < 5 {
			t.Errorf("%v without %s: the nodes have %v kids", c.ahead, c.del, kids)
		}
		for _, x := range r.entries("", "") {
			r.del(x.key)
			r.counts("deleted")
		}
	}
}

// kidsBelowRoot is how many kids each kid of the root has.
func kidsBelowRoot(t testing.TB, x *Tree) []int {
	t.Helper()
	root, e := x.root()
	want(t, "root", e, api.OK)
	n, e := x.node(root)
	want(t, "node", e, api.OK)
	var l []int
	for _, kid := range n.Kids {
		n, e := x.node(kid)
		want(t, "node", e, api.OK)
		l = append(l, len(n.Kids))
	}
	return l
}

// P9.2, P9.5, P9.6: then the key between the two may be longer than it was, so that the node above has no room for it: a tree gets a level more by a Delete.
func TestShareSplitsAbove(t *testing.T) {
	for ahead, key := range map[bool]string{false: "a", true: "c"} {
		s := map[bool]string{false: "n", true: "N"}[ahead]
		r := planted(t, crown(ahead, s+"1", s+"2", s+"3", s+"4"), 60)
		r.del(key)
		r.same("shared")
		if levels(t, r.x) != 4 {
			t.Errorf("%v: %d levels", ahead, levels(t, r.x))
		}
		for _, x := range r.entries("", "") {
			r.del(x.key)
			r.counts("deleted")
		}
	}
}

// P9.2: such a Delete is refused where no pages are free, and has changed nothing.
func TestShareWithoutRoom(t *testing.T) {
	x := crown(false, "n1", "n2", "n3", "n4")
	r := planted(t, x, 0)
	before := image(t, r.p)
	want(t, "Delete", r.tryDel("a"), api.ErrFull)
	if image(t, r.p) != before {
		t.Error("the pages have changed")
	}
	r.same("refused")
	r = planted(t, x, 1)
	want(t, "Delete", r.tryDel("a"), api.OK)
	r.same("with one page more")
	if r.p.Left() != 0 {
		t.Errorf("%d pages are free", r.p.Left())
	}
}

// leafBytes is a leaf that has so many bytes in a page; its keys begin with one letter after the other.
func leafBytes(first byte, length int) plant {
	x := plant{}
	for left := length - 2; left > 0; first++ {
		size := min(left, 99)
		if left-size > 0 && left-size < 5 {
			size -= 5
		}
		x.keys = append(x.keys, string(first)+strings.Repeat("-", size-4))
		left -= size
	}
	return x
}

// P9.6: two leaves become one as soon as one page has room for both, and the tree a level less; not any earlier.
func TestJoinsJustInTime(t *testing.T) {
	for _, c := range []struct {
		first, second int // how many bytes the leaves have, the first one without the key that is deleted
		pages         int
	}{
		{100, 200, 1}, {200, 100, 1}, {100, 350, 1}, {100, 351, 3}, {223, 227, 1}, {223, 228, 3}, {224, 10, 3}, {10, 440, 1}, {10, 441, 3},
	} {
		for _, behind := range []bool{false, true} {
			first, second := leafBytes('b', c.first), leafBytes('m', c.second)
			first.keys = append([]string{"a"}, first.keys...)
			if behind {
				first, second = leafBytes('b', c.second), leafBytes('m', c.first)
				second.keys = append(second.keys, "z")
			}
			r := planted(t, plant{keys: []string{"m"}, kids: []plant{first, second}}, 60)
			r.del(map[bool]string{false: "a", true: "z"}[behind])
			r.same("joined")
			if taken := r.p.Pages() - 1 - r.p.Left(); taken != c.pages {
				t.Errorf("%v: %d pages are taken", c, taken)
			}
			if c.pages == 3 && r.p.Staged() != 1 {
				t.Errorf("%v: %d pages are staged", c, r.p.Staged())
			}
		}
	}
}

// P9.6: a leaf is split where a page has no room for it, and not any earlier; so is the root above leaves.
func TestSplitsJustInTime(t *testing.T) {
	for length, pages := range map[int]int{447: 1, 448: 1, 449: 3} {
		x := leafBytes('b', length-4)
		r := planted(t, x, 60)
		r.put("a", "")
		r.same("a leaf")
		if taken := r.p.Pages() - 1 - r.p.Left(); taken != pages {
			t.Errorf("%d bytes take %d pages", length, taken)
		}
		r = planted(t, plant{keys: []string{"m"}, kids: []plant{x, leafBytes('m', 300)}}, 60)
		r.put("a", "")
		r.same("a leaf below the root")
		if taken := r.p.Pages() - 1 - r.p.Left(); taken != 3+pages/2 {
			t.Errorf("%d bytes, and a neighbour, take %d pages", length, taken)
		}
	}
	// The root comes to 2 bytes, four keys of 97 bytes, one more, of length + 2, and six kids, of which the new one counts for two bytes, as its page may.
	for length, levelCount := range map[int]int{48: 2, 49: 2, 50: 3} {
		x := plant{kids: []plant{{keys: []string{"a"}}}}
		for _, k := range []string{"b", "c", "d"} {
			x = x.with(long(k), plant{keys: []string{long(k)}})
		}
		x = x.with("e"+strings.Repeat("-", length), leafBytes('f', 448))
		r := planted(t, x, 60)
		r.put("z"+strings.Repeat("-", 95), "")
		r.same("split")
		if levels(t, r.x) != levelCount {
			t.Errorf("%d: %d levels", length, levels(t, r.x))
		}
	}
}

// P9.2: a Put that makes a node longer asks for no page but its own.
func TestPutStagesItsOwn(t *testing.T) {
	r := planted(t, plant{keys: []string{"m"}, kids: []plant{leafBytes('b', 100), leafBytes('m', 100)}}, 60)
	for i, key := range []string{"a", "z"} {
		r.put(key, "1")
		r.same("put")
		if r.p.Staged() != i+1 {
			t.Errorf("%d pages are staged", r.p.Staged())
		}
	}
	r.put("z", "2")
	if r.p.Staged() != 2 {
		t.Errorf("%d pages are staged", r.p.Staged())
	}
}

// P9.5, P9.6: the deepest tree that there can be: each node has as few kids as may be, and all pages are taken.
func TestDeepestTree(t *testing.T) {
	var grow func(from, to int) plant
	grow = func(from, to int) plant {
		if to-from == 1 {
			return plant{keys: []string{wide(from)}}
		}
		mid := (from + to) / 2
		return plant{keys: []string{wide(mid)}, kids: []plant{grow(from, mid), grow(mid, to)}}
	}
	l, m := sheets{}, map[string]string{}
	root := grow(0, 1024).lay(l, m)
	d := laid(t, api.MaxSlots, api.MaxPages)
	p := pagesOf(t, d, api.MaxPool)
	for page := 1; page <= len(l); page++ {
		got, e := p.Alloc()
		want(t, "Alloc", e, api.OK)
		if got != page {
			t.Fatalf("Alloc: %d", got)
		}
		want(t, "Set", p.Set(page, bytesOf(t, l[page])), api.OK)
		if page%100 == 0 {
			want(t, "Commit", p.Commit(), api.OK)
		}
	}
	want(t, "SetWord", p.SetWord(2, int64(root)), api.OK)
	r := &rig{t: t, d: d, p: p, x: treeOf(t, p, 2), m: m, word: 2}
	r.commit()
	if p.Left() != 0 || levels(t, r.x) != 11 {
		t.Fatalf("%d pages are free, %d levels", p.Left(), levels(t, r.x))
	}
	r.same("the deepest tree")
	for i := range 1024 {
		r.del(wide(i * 389 % 1024))
		if i < 20 || i%50 == 0 {
			r.counts("deleted")
		}
		if p.Staged() > 150 {
			r.commit()
		}
	}
	r.same("deleted")
}

// P9.2: where a leaf stands beside an inner node, nothing is done by halves.
func TestNeighbourOfAnotherKind(t *testing.T) {
	p, x := crafted(t, 100, sheets{
		1: innerOf([]int{2, 3}, "m"),
		2: leafOf("a", "b"),
		3: innerOf([]int{4, 5}, "p"),
		4: leafOf("m"), 5: leafOf("p"),
	}, 1)
	before := image(t, p)
	for _, key := range []string{"a", "m"} {
		if is, e := del(t, x, key); is || e != api.ErrTree {
			t.Errorf("Delete of %s: %v, %d", key, is, e)
		}
		if image(t, p) != before {
			t.Error("the pages have changed")
		}
	}
}

// P9.2: where a value's page is a node on the way, too, nothing is done by halves.
func TestValueInItsOwnWay(t *testing.T) {
	// A leaf of 441 bytes that begins with 1 is a piece of a value behind which the page 1 comes.
	leaf := overOf(2, 500, "a", "b", "c", "d", "e", "f", "g", "h")
	for i := range 6 {
		leaf.Cells[i].Val = []byte(some(64, i))
	}
	leaf.Cells[6].Val = []byte(some(441-node.Size(leaf), 6))
	if b := bytesOf(t, leaf); len(b) != 441 || b[0] != 1 {
		t.Fatalf("%d bytes", len(b))
	}
	p, x := crafted(t, 100, sheets{1: chunk(0, 60), 2: leaf}, 2)
	before := image(t, p)
	if v, e := get(t, x, "h"); len(v) != 500 || e != api.OK {
		t.Errorf("Get: %d bytes, %d", len(v), e)
	}
	want(t, "Put", put(t, x, "h", "1"), api.ErrTree)
	if is, e := del(t, x, "h"); is || e != api.ErrTree {
		t.Errorf("Delete: %v, %d", is, e)
	}
	if _, _, e := x.Check(); e != api.ErrTree {
		t.Errorf("Check: %d", e)
	}
	if image(t, p) != before {
		t.Error("the pages have changed")
	}
	want(t, "Put", put(t, x, "a", "1"), api.OK)
}

// P9.2: where a node has one neighbour on two levels, nothing is done by halves.
func TestNeighbourTwice(t *testing.T) {
	p, x := crafted(t, 100, sheets{
		1: innerOf([]int{2, 4}, "m"),
		2: innerOf([]int{3, 4}, "c"),
		3: innerOf([]int{5, 6}, "b"),
		4: innerOf([]int{7, 8}, "x"),
		5: leafOf("a"), 6: leafOf("b"), 7: leafOf("w"), 8: leafOf("x"),
	}, 1)
	before := image(t, p)
	for _, key := range []string{"a", "b"} {
		if is, e := del(t, x, key); is || e != api.ErrTree {
			t.Errorf("Delete of %s: %v, %d", key, is, e)
		}
		if image(t, p) != before {
			t.Error("the pages have changed")
		}
	}
}
