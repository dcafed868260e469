package btree

import (
	"fmt"
	"math/rand"
	"slices"
	"testing"

	"ramble/api"
)

// P9.5, P9.6: trees of four words in one pager do not meet: each has its keys, and together they have all pages that are not free.
func TestTreesTogether(t *testing.T) {
	rnd := rand.New(rand.NewSource(4))
	d := laid(t, 3000, 500)
	p := pagesOf(t, d, 200)
	var l []*rig
	for word := range api.MaxWords {
		l = append(l, &rig{t: t, d: d, p: p, x: treeOf(t, p, word), m: map[string]string{}, word: word})
	}
	for i := range 3000 {
		r := l[rnd.Intn(len(l))]
		want(t, "a deed", someDeed(rnd, i)(r), api.OK)
		switch rnd.Intn(60) {
		case 0:
			for _, x := range r.entries("", "") {
				r.del(x.key)
			}
		case 1, 2, 3, 4:
			want(t, "Commit", p.Commit(), api.OK)
		}
		if p.Staged() > 120 {
			want(t, "Commit", p.Commit(), api.OK)
		}
		taken := 0
		for _, r := range l {
			keys, pages, e := r.x.Check()
			if keys != len(r.m) || e != api.OK || keys == 0 && pages != 0 {
				t.Fatalf("the word %d: %d keys, %d pages, %d; want %d keys", r.word, keys, pages, e, len(r.m))
			}
			taken += pages
		}
		if taken != 499-p.Left() {
			t.Fatalf("they have %d pages, and %d are taken", taken, 499-p.Left())
		}
	}
	for _, r := range l {
		if got, w := all(t, r.x, "", ""), r.entries("", ""); !slices.Equal(got, w) || len(w) == 0 {
			t.Errorf("the word %d: %s; want %s", r.word, tell(got), tell(w))
		}
	}
}

// P9.1, P9.5: two Trees of one word are one tree.
func TestTwiceOpened(t *testing.T) {
	r := newRig(t, 500, 100)
	other := treeOf(t, r.p, 2)
	for i := range 60 {
		r.put(fmt.Sprint(i), some(i*9, i))
		wantGet(t, other, fmt.Sprint(i), some(i*9, i), api.OK)
		r.x, other = other, r.x
		if i%3 == 0 {
			r.del(fmt.Sprint(i / 2))
			r.x, other = other, r.x
		}
		r.same("either")
	}
}

// R4: the same calls in the same order come to the same, bytes too.
func TestTheSameAgain(t *testing.T) {
	run := func() string {
		rnd := rand.New(rand.NewSource(8))
		r := newRig(t, 3000, 300)
		s := ""
		for i := range 400 {
			s += fmt.Sprint(someDeed(rnd, i)(r), r.p.Left(), r.p.Staged(), " ")
			if i%20 == 0 {
				r.commit()
			}
		}
		return s + image(t, r.p)
	}
	if run() != run() {
		t.Error("not the same again")
	}
}

// P9.5, P9.6, P9.8: long ways of any keys and values, held against the map.
func TestLongWays(t *testing.T) {
	for seed := range 16 {
		t.Run(fmt.Sprint(seed), func(t *testing.T) {
			t.Parallel()
			rnd := rand.New(rand.NewSource(int64(seed)))
			r := newRig(t, api.MaxSlots, api.MaxPages)
			key := func() string {
				b := []byte(some(1+rnd.Intn(1+rnd.Intn(api.MaxKey)), 7))
				b[0] = byte(rnd.Intn(8))
				b[rnd.Intn(len(b))] = byte(rnd.Intn(200))
				return string(b)
			}
			for i := range 3000 {
				more := i/500%2 == 0
				if (rnd.Intn(4) > 0) == more {
					r.put(key(), some(rnd.Intn(1<<rnd.Intn(9)), i))
				} else if l := r.entries(key(), ""); len(l) > 0 && rnd.Intn(10) > 0 {
					r.del(l[0].key)
				} else {
					r.del(key())
				}
				if r.p.Staged() > 150 {
					r.commit()
				}
				if i%20 == 0 {
					r.counts("a step")
					from, to := key(), key()
					if got, w := all(t, r.x, from, to), r.entries(from, to); !slices.Equal(got, w) {
						t.Fatalf("All from %q to %q: %s; want %s", from, to, tell(got), tell(w))
					}
				}
				if i%500 == 499 {
					r.same("long")
				}
			}
		})
	}
}
