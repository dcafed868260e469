package btree

import (
	"fmt"
	"math/rand"
	"slices"
	"testing"

	"ramble/api"
	"ramble/pager"
)

// probes are keys below, at, between and above those of the trees that are made by hand.
var probes = []string{"\x00", "a", "ab", "b", "c", "d", "e", "f", "l", "m", "n", "o", "p", "q", "r", "t", "u", "x", "z", "zz", "\xff"}

// prod makes every call, whatever the pages are: each ends and none panics, answers what it may, and has changed nothing where it answers an error. There must be Spare pages free, and as much room in the pool.
func prod(t testing.TB, what string, p *pager.Pager, x *Tree) {
	t.Helper()
	keys, pages, e := x.Check()
	if e != api.OK && (e != api.ErrTree || keys != 0 || pages != 0) {
		t.Fatalf("%s: Check: %d, %d, %d", what, keys, pages, e)
	}
	prodOrder(t, what, p, x, e == api.OK, keys)
	before := image(t, p)
	for _, key := range probes {
		_, f := get(t, x, key)
		if f != api.OK && f != api.ErrNone && f != api.ErrTree || e == api.OK && f == api.ErrTree {
			t.Fatalf("%s: Get of %q: %d", what, key, f)
		}
		for _, length := range []int{0, 64, 65, 4096} {
			g := put(t, x, key, some(length, 1))
			prodChange(t, what+": Put of "+key, p, x, g, e, before)
			if g == api.OK && e == api.OK {
				wantGet(t, x, key, some(length, 1), api.OK)
				n := keys
				if f == api.ErrNone {
					n++
				}
				wantKeys(t, what, x, n)
			}
			want(t, "Abort", p.Abort(), api.OK)
		}
		is, g := del(t, x, key)
		prodChange(t, what+": Delete of "+key, p, x, g, e, before)
		if g == api.OK && is != (f == api.OK) && f != api.ErrTree {
			t.Fatalf("%s: Delete of %q: %v, and Get: %d", what, key, is, f)
		}
		if is && e == api.OK {
			wantGet(t, x, key, "", api.ErrNone)
			wantKeys(t, what, x, keys-1)
		}
		want(t, "Abort", p.Abort(), api.OK)
	}
	if image(t, p) != before {
		t.Fatalf("%s: the pages have changed", what)
	}
}

func wantKeys(t testing.TB, what string, x *Tree, keys int) {
	t.Helper()
	if got, _, e := x.Check(); got != keys || e != api.OK {
		t.Fatalf("%s: Check: %d keys, %d; want %d", what, got, e, keys)
	}
}

// prodChange holds what a call that changes a tree answered: of a tree OK, of what is none perhaps ErrTree.
func prodChange(t testing.TB, what string, p *pager.Pager, x *Tree, e, checked api.Errno, before string) {
	t.Helper()
	if e != api.OK && (e != api.ErrTree || checked == api.OK) {
		t.Fatalf("%s: %d", what, e)
	}
	if e != api.OK && image(t, p) != before {
		t.Fatalf("%s: %d, and the pages have changed", what, e)
	}
	x.Check()
	for range x.All(nil, nil) {
	}
}

// prodOrder goes through what All and cursors tell: keys that rise, and that fall; of a tree all of them.
func prodOrder(t testing.TB, what string, p *pager.Pager, x *Tree, isTree bool, keys int) {
	t.Helper()
	var l []string
	for _, y := range all(t, x, "", "") {
		l = append(l, y.key)
	}
	if !slices.IsSorted(l) || len(slices.Compact(slices.Clone(l))) != len(l) {
		t.Fatalf("%s: All: %q", what, l)
	}
	var up, down []string
	for c, is := seek(t, x, ""), true; is && keyOf(t, c) != ""; is = c.Next() {
		up = append(up, keyOf(t, c))
	}
	for c, is := x.Last(), true; is && keyOf(t, c) != ""; is = c.Prev() {
		down = append(down, keyOf(t, c))
	}
	if !slices.IsSorted(up) || len(up) < len(l) || !slices.Equal(up[:len(l)], l) {
		t.Fatalf("%s: Next: %q; All: %q", what, up, l)
	}
	slices.Reverse(down)
	if !slices.IsSorted(down) || len(slices.Compact(slices.Clone(down))) != len(down) {
		t.Fatalf("%s: Prev: %q", what, down)
	}
	if isTree && (len(l) != keys || !slices.Equal(down, l)) {
		t.Fatalf("%s: %d keys, All: %q, Prev: %q", what, keys, l, down)
	}
}

// someSheet is a page that may be anything: a leaf, an inner node, a piece of a value, any bytes.
func someSheet(r *rand.Rand, pages int) any {
	var keys []string
	for _, key := range probes {
		if r.Intn(5) == 0 {
			keys = append(keys, key)
		}
	}
	switch r.Intn(9) {
	case 0, 1, 2:
		n := leafOf(keys...)
		for i := range n.Cells {
			if r.Intn(4) == 0 {
				n.Cells[i].Over, n.Cells[i].Len = 1+r.Intn(pages), []int{65, 440, 500, 881, 4096, 5000}[r.Intn(6)]
			}
		}
		return n
	case 3, 4, 5:
		n := innerOf([]int{1 + r.Intn(pages)}, keys...)
		for range keys {
			n.Kids = append(n.Kids, 1+r.Intn(pages))
		}
		return n
	case 6, 7:
		return chunk(uint64(r.Intn(pages+2)), []int{65, 440, 60, 1, 136}[r.Intn(5)])
	}
	return some(r.Intn(30), r.Intn(256))
}

// P1, P9.1 to P9.3: pages of anything.
func TestAnyPages(t *testing.T) {
	t.Parallel()
	p := pagesOf(t, laid(t, 2000, 80), api.MaxPool)
	x := treeOf(t, p, 2)
	trees := 0
	rounds := 1500
	if testing.Short() {
		rounds = 150
	}
	for seed := range rounds {
		r := rand.New(rand.NewSource(int64(seed)))
		l := sheets{}
		pages := 1 + r.Intn(20)
		for page := 1; page <= pages; page++ {
			if r.Intn(8) > 0 {
				l[page] = someSheet(r, pages+1)
			}
		}
		layByHand(t, p, l, int64(r.Intn(pages+2)))
		if _, _, e := x.Check(); e == api.OK {
			trees++
		}
		prod(t, fmt.Sprint("seed ", seed), p, x)
		for page := range l {
			want(t, "Free", p.Free(page), api.OK)
		}
		want(t, "Commit", p.Commit(), api.OK)
	}
	if trees < rounds/50 {
		t.Errorf("%d of them are trees", trees)
	}
}

// P1: changes that are kept, one behind the other, in pages of anything: no panic, no end that does not come, and no refusal for want of room.
func TestChangesInAnyPages(t *testing.T) {
	t.Parallel()
	rounds := 400
	if testing.Short() {
		rounds = 40
	}
	for seed := range rounds {
		r := rand.New(rand.NewSource(int64(seed)))
		p := pagesOf(t, laid(t, 200, 150), api.MaxPool)
		x := treeOf(t, p, 2)
		l := sheets{}
		pages := 1 + r.Intn(12)
		for page := 1; page <= pages; page++ {
			l[page] = someSheet(r, pages)
		}
		layByHand(t, p, l, int64(1+r.Intn(pages)))
		for range 60 {
			if p.Left() < api.Spare || p.Pool()-p.Staged() < api.Spare {
				break
			}
			key := probes[r.Intn(len(probes))] + some(r.Intn(90), 1)
			var e api.Errno
			if r.Intn(3) > 0 {
				e = put(t, x, key, some(r.Intn(150), 2))
			} else {
				_, e = del(t, x, key)
			}
			if e != api.OK && e != api.ErrTree {
				t.Fatalf("seed %d: %d", seed, e)
			}
			prodOrder(t, fmt.Sprint("seed ", seed), p, x, false, 0)
			x.Check()
		}
	}
}
