package btree

import (
	"fmt"
	"testing"

	"ramble/api"
)

// P9.5, P9.6: keys put in any order and deleted in any order, to the last one, with pages that are counted at each step.
func TestOrders(t *testing.T) {
	const n = 250
	shapes := map[string]func(i int) entry{
		"short":  func(i int) entry { return entry{fmt.Sprintf("%03d", i), some(i%5, i)} },
		"wide":   func(i int) entry { return entry{wide(i), some(i%65, i)} },
		"uneven": func(i int) entry { return entry{fmt.Sprintf("%03d", i) + some(i*i%94, i), some(i*i%130, i)} },
	}
	for shape, entryOf := range shapes {
		eachOrder(n, func(putName string, putOrder []int) {
			eachOrder(n, func(delName string, delOrder []int) {
				t.Run(fmt.Sprintf("%s, put %s, deleted %s", shape, putName, delName), func(t *testing.T) {
					t.Parallel()
					r := newRig(t, api.MaxSlots, 1000)
					for _, i := range putOrder {
						x := entryOf(i)
						r.put(x.key, x.val)
						r.counts("put")
						if r.p.Staged() > 150 {
							r.commit()
						}
					}
					r.same("put")
					r.commit()
					for _, i := range delOrder {
						r.del(entryOf(i).key)
						r.counts("deleted")
						if len(r.m)%50 == 0 {
							r.same("deleted")
						}
						if r.p.Staged() > 150 {
							r.commit()
						}
					}
					r.same("all deleted")
				})
			})
		})
	}
}

// P9.5, P9.6: one key, as many as one leaf has room for, and one more; and back.
func TestLeafAndOneMore(t *testing.T) {
	for _, shape := range []struct {
		key, val int // their lengths
		room     int // as many as one page of 448 bytes has room for: two bytes stand ahead of all, three in each
	}{
		{4, 0, 446 / 7}, {4, 64, 446 / 71}, {96, 0, 446 / 99}, {96, 64, 446 / 163}, {5, 3, 446 / 11},
	} {
		r := newRig(t, 400, 60)
		key := func(i int) string { return fmt.Sprintf("%04d", i) + some(shape.key-4, 1) }
		for i := range shape.room {
			r.put(key(i), some(shape.val, i))
			r.counts("a leaf")
			if r.p.Left() != 58 {
				t.Fatalf("%v: %d keys take %d pages", shape, i+1, 59-r.p.Left())
			}
		}
		r.same("a full leaf")
		r.put(key(shape.room), some(shape.val, 1))
		r.same("one more")
		if r.p.Left() != 56 || levels(t, r.x) != 2 {
			t.Fatalf("%v: one more than a leaf has room for takes %d pages", shape, 59-r.p.Left())
		}
		for i := range shape.room {
			r.del(key(i))
			r.same("one less")
		}
		if r.p.Left() != 58 || levels(t, r.x) != 1 {
			t.Fatalf("%v: one key takes %d pages", shape, 59-r.p.Left())
		}
		r.del(key(shape.room))
		r.same("none")
	}
}

// P9.5, P9.6: a tree of many levels grows and shrinks, and tells what is in it.
func TestManyLevels(t *testing.T) {
	eachOrder(1200, func(name string, order []int) {
		t.Run(name, func(t *testing.T) {
			t.Parallel()
			r := newRig(t, api.MaxSlots, api.MaxPages)
			most := 0
			for i, at := range order {
				r.put(wide(at), some(i%9, i))
				if r.p.Staged() > 150 {
					r.commit()
				}
				most = max(most, levels(t, r.x))
			}
			if most < 5 {
				t.Fatalf("no more than %d levels", most)
			}
			r.same("grown")
			r.commit()
			r.reopen()
			r.same("opened anew")
			for i, at := range order {
				r.del(wide((at + 600) % 1200))
				if r.p.Staged() > 150 {
					r.commit()
				}
				if i%100 == 0 {
					r.same("shrinking")
				}
			}
			r.same("shrunk")
		})
	})
}

// P9.6: what was deleted leaves no pages behind that hold next to nothing: two neighbours for which one page has room do not both stay.
func TestShrinks(t *testing.T) {
	r := newRig(t, api.MaxSlots, 1000)
	for i := range 1000 {
		r.put(fmt.Sprintf("%04d", i), some(20, i))
		if r.p.Staged() > 150 {
			r.commit()
		}
	}
	for i := range 1000 {
		if i%10 != 0 {
			r.del(fmt.Sprintf("%04d", i))
			r.counts("deleted")
		}
		if r.p.Staged() > 150 {
			r.commit()
		}
	}
	r.same("shrunk")
	// 100 keys of 27 bytes each: one page has room for 16 of them, and half a page for 8.
	if taken := 999 - r.p.Left(); taken > 100/8+3 {
		t.Errorf("100 keys take %d pages", taken)
	}
}
