package btree

import (
	"fmt"
	"math/rand"
	"testing"

	"ramble/api"
)

// wantMayRefuse holds that a call was refused for want of room only where there was less than Spare, and has changed nothing.
func (r *rig) wantMayRefuse(what string, e api.Errno, left, room int, before string) {
	r.t.Helper()
	switch {
	case e == api.ErrFull && left < api.Spare:
	case e == api.ErrPool && room < api.Spare:
	default:
		r.t.Fatalf("%s: %d, with %d pages free, and room for %d", what, e, left, room)
	}
	if image(r.t, r.p) != before {
		r.t.Fatalf("%s: %d, and the pages have changed", what, e)
	}
}

// room is how many pages are free, and how many more may be staged.
func (r *rig) room() (int, int) { return r.p.Left(), r.p.Pool() - r.p.Staged() }

// tryPut and tryDel do it to both, if there is room.
func (r *rig) tryPut(key, val string) api.Errno {
	r.t.Helper()
	left, room := r.room()
	before := image(r.t, r.p)
	e := put(r.t, r.x, key, val)
	if e != api.OK {
		r.wantMayRefuse("Put", e, left, room, before)
		return e
	}
	r.m[key] = val
	return e
}

func (r *rig) tryDel(key string) api.Errno {
	r.t.Helper()
	left, room := r.room()
	before := image(r.t, r.p)
	is, e := del(r.t, r.x, key)
	if e != api.OK {
		r.wantMayRefuse("Delete", e, left, room, before)
		return e
	}
	if _, there := r.m[key]; is != there {
		r.t.Fatalf("Delete of %q: %v", key, is)
	}
	delete(r.m, key)
	return e
}

// P9.2: ErrFull only where fewer than Spare pages are free, ErrPool only where the pool has room for fewer; and nothing has changed then.
func TestRefused(t *testing.T) {
	refused := map[api.Errno]int{}
	for seed := range 60 {
		rnd := rand.New(rand.NewSource(int64(seed)))
		r := newRig(t, 2000, 12+rnd.Intn(70))
		r.p = pagesOf(t, r.d, 8+rnd.Intn(50))
		r.x = treeOf(t, r.p, 2)
		for i := range 250 {
			key := fmt.Sprintf("%03d", rnd.Intn(150)) + some(rnd.Intn(94), i)
			if l := r.entries("", ""); len(l) > 0 && rnd.Intn(3) > 0 {
				key = l[rnd.Intn(len(l))].key
			}
			var e api.Errno
			if rnd.Intn(3) > 0 {
				e = r.tryPut(key, some([]int{0, 10, 64, 65, 500, 4096}[rnd.Intn(6)], i))
			} else {
				e = r.tryDel(key)
			}
			refused[e]++
			r.counts("a step")
			if rnd.Intn(20) == 0 {
				r.commit()
			}
		}
		r.same("at last")
	}
	if refused[api.ErrFull] < 100 || refused[api.ErrPool] < 100 || refused[api.OK] < 100 {
		t.Errorf("how often which error: %v", refused)
	}
}

// P9.2: what was refused leaves nothing to commit.
func TestRefusedLeavesNothing(t *testing.T) {
	for _, c := range []struct {
		pages, pool int
		e           api.Errno
	}{{10, 60, api.ErrFull}, {60, api.MinPool, api.ErrPool}} {
		r := newRig(t, 500, c.pages)
		r.p = pagesOf(t, r.d, c.pool)
		r.x = treeOf(t, r.p, 2)
		r.put("a", "1")
		r.commit()
		calls := r.d.Calls()
		want(t, "Put", r.tryPut("b", some(api.MaxVal, 1)), c.e)
		r.commit()
		if r.d.Calls() != calls {
			t.Errorf("%d: there was something to commit", c.e)
		}
		r.same("refused")
	}
}

// P9.2: with just Spare pages free, and room for just as many, nothing is refused: here each node on the way is full, and the value as long as may be.
func TestSpareIsEnough(t *testing.T) {
	for depth := 1; depth <= 10; depth++ {
		l := sheets{}
		for i := 1; i < depth; i++ {
			// Its other kids are never looked at.
			l[i] = innerOf([]int{2000, 2000, i + 1, 2000, 2000}, wide(i), wide(20+i), wide(80-i), wide(99-i))
		}
		l[depth] = leafOf(wide(50)[:95], wide(52), wide(53), wide(54))
		d := laid(t, api.MaxSlots, 1+depth+api.Spare)
		layByHand(t, pagesOf(t, d, api.MaxPool), l, 1)
		p := pagesOf(t, d, api.Spare)
		x := treeOf(t, p, 2)
		if p.Left() != api.Spare {
			t.Fatalf("%d pages are free", p.Left())
		}
		want(t, fmt.Sprint("Put ", depth), put(t, x, wide(51), some(api.MaxVal, 1)), api.OK)
		if staged := p.Staged(); staged != 2*depth+1+10 {
			t.Errorf("%d levels: %d pages are staged", depth, staged)
		}
		wantGet(t, x, wide(51), some(api.MaxVal, 1), api.OK)
		wantGet(t, x, wide(53), "", api.OK)
	}
}

// P9.2: where no page is free a key can be deleted that asks for none, and so can all of them.
func TestDeleteWithoutRoom(t *testing.T) {
	eachOrder(400, func(name string, order []int) {
		r := newRig(t, api.MaxSlots, 50)
		for _, i := range order {
			if r.tryPut(wide(i), some(i%65, i)) != api.OK {
				break
			}
			r.commit()
		}
		if r.p.Left() > 10 {
			t.Fatalf("%s: refused with %d pages free", name, r.p.Left())
		}
		for i := 0; r.p.Left() > 0; i++ {
			want(t, "Put", r.tryPut(fmt.Sprintf("z%d", i), some(65, i)), api.OK)
		}
		r.same(name + ", full")
		for _, x := range r.entries("", "") {
			r.del(x.key)
			r.counts(name + ", deleted")
		}
		r.same(name + ", empty")
	})
}

// P9.2: one level more than any tree has is refused, since nobody would find down from there; such pages are no tree.
func TestNoLevelTooMany(t *testing.T) {
	l := sheets{}
	for i := 1; i < 11; i++ {
		l[i] = innerOf([]int{2000, 2000, i + 1, 2000, 2000}, wide(i), wide(20+i), wide(80-i), wide(99-i))
	}
	l[11] = leafOf(wide(50)[:95], wide(52), wide(53), wide(54))
	p, x := crafted(t, 100, l, 1)
	before := image(t, p)
	wantGet(t, x, wide(52), "", api.OK)
	want(t, "Put", put(t, x, wide(51), ""), api.ErrTree)
	if image(t, p) != before {
		t.Error("the pages have changed")
	}
	if is, e := del(t, x, wide(52)); !is || e != api.OK {
		t.Errorf("Delete: %v, %d", is, e)
	}
	want(t, "Put", put(t, x, wide(51), ""), api.OK)
}

// P9.5: a pool as small as may be is enough to ask a tree of any size, and to change it a little.
func TestSmallPool(t *testing.T) {
	r := newRig(t, api.MaxSlots, 700)
	for i := range 400 {
		r.put(wide(i*7%400), some(i%200, i))
		if r.p.Staged() > 150 {
			r.commit()
		}
	}
	r.commit()
	r.p = pagesOf(t, r.d, api.MinPool)
	r.x = treeOf(t, r.p, 2)
	r.same("a small pool")
	for i := range 100 {
		want(t, "Put", r.tryPut(wide(i*3), some(i%65, i)), api.OK)
		r.commit()
		r.counts("a small pool")
	}
	r.same("a small pool, changed")
}

// P9.2: the pool is used to its last page, and no further.
func TestLastPageOfThePool(t *testing.T) {
	r := newRig(t, 300, 100)
	r.put("a", "1")
	r.commit()
	r.p = pagesOf(t, r.d, api.MinPool)
	r.x = treeOf(t, r.p, 2)
	for range api.MinPool - 1 {
		_, e := r.p.Alloc()
		want(t, "Alloc", e, api.OK)
	}
	want(t, "Put", r.tryPut("b", "2"), api.OK)
	if r.p.Staged() != api.MinPool {
		t.Errorf("%d pages are staged", r.p.Staged())
	}
	want(t, "Put", r.tryPut("c", "3"), api.ErrPool)
	want(t, "Delete", r.tryDel("a"), api.ErrPool)
	want(t, "Delete", r.tryDel("x"), api.OK)
	wantGet(t, r.x, "b", "2", api.OK)
	wantGet(t, r.x, "c", "", api.ErrNone)
}
