package btree

import (
	"fmt"
	"maps"
	"math/rand"
	"testing"

	"ramble/api"
	"ramble/disk"
)

// deed is something that is done to a tree and to its map.
type deed func(r *rig) api.Errno

func putting(key, val string) deed {
	return func(r *rig) api.Errno {
		e := put(r.t, r.x, key, val)
		if e == api.OK {
			r.m[key] = val
		}
		return e
	}
}

func deleting(key string) deed {
	return func(r *rig) api.Errno {
		_, e := del(r.t, r.x, key)
		if e == api.OK {
			delete(r.m, key)
		}
		return e
	}
}

// script is deeds, each list of which is committed together; the tree grows to three levels, and goes away again.
func script() [][]deed {
	var l [][]deed
	for i := range 8 {
		var one []deed
		for k := range 3 {
			at := (i*3 + k) * 7 % 24
			one = append(one, putting(wide(at), some(at*40%600, at)))
		}
		l = append(l, one)
	}
	l = append(l, []deed{putting(wide(3), some(2000, 9)), deleting(wide(4)), putting(wide(5), "")})
	l = append(l, []deed{putting(wide(3), "short"), deleting("not there")})
	for i := range 6 {
		var one []deed
		for k := range 4 {
			one = append(one, deleting(wide((i*4+k)*5%24)))
		}
		l = append(l, one)
	}
	return l
}

// crash does a script until the power goes; it tells what was committed last, and what would be if the commit that was under way is there.
func crash(r *rig, l [][]deed) (old, new map[string]string, crashed bool) {
	r.t.Helper()
	old = maps.Clone(r.m)
	for _, one := range l {
		for _, do := range one {
			want(r.t, "a deed", do(r), api.OK)
		}
		e := r.p.Commit()
		if e == api.ErrDown {
			return old, maps.Clone(r.m), true
		}
		want(r.t, "Commit", e, api.OK)
		old = maps.Clone(r.m)
	}
	return old, old, false
}

// restart lets the power come back, with some of what was not flushed kept, and perhaps one torn.
func restart(t testing.TB, rnd *rand.Rand, d *disk.Disk) {
	t.Helper()
	torn, keep := rnd.Intn(6)-1, make([]bool, rnd.Intn(12))
	for i := range keep {
		keep[i] = rnd.Intn(3) > 0
	}
	start(t, d, torn, keep...)
}

func start(t testing.TB, d *disk.Disk, torn int, keep ...bool) {
	t.Helper()
	want(t, "Start", d.Start(torn, keep...), api.OK)
	want(t, "SetFuse", d.SetFuse(0), api.OK)
}

// wantOneOf holds that a tree is one of two maps, and makes that the rig's: whether it is the new one.
func (r *rig) wantOneOf(what string, old, new map[string]string) bool {
	r.t.Helper()
	got := map[string]string{}
	for k, v := range r.x.All(nil, nil) {
		got[string(k)] = string(v)
	}
	is := maps.Equal(got, new)
	if !is && !maps.Equal(got, old) {
		r.t.Fatalf("%s: %d keys, neither the %d that were committed, nor the %d that were under way", what, len(got), len(old), len(new))
	}
	r.m = got
	r.same(what)
	return is && !maps.Equal(old, new)
}

// P9.7: the power goes at each call of the disk, and nothing, all or some of what was not flushed is kept: the tree is what it was at the last commit, or at the one under way.
func TestCrashAtEveryCall(t *testing.T) {
	laid := laid(t, 100, 120)
	old, new := 0, 0
	for fuse := 1; ; fuse++ {
		d := laid.Clone()
		p := pagesOf(t, d, 100)
		r := &rig{t: t, d: d, p: p, x: treeOf(t, p, 2), m: map[string]string{}, word: 2}
		want(t, "SetFuse", d.SetFuse(fuse), api.OK)
		was, is, crashed := crash(r, script())
		if !crashed {
			if fuse < 100 || len(was) != 0 || r.p.Left() != 119 {
				t.Fatalf("%d calls, %d keys, %d pages free", fuse, len(was), r.p.Left())
			}
			break
		}
		for way := range 3 {
			r.d = d.Clone()
			switch way {
			case 0:
				start(t, r.d, -1, false)
			case 1:
				start(t, r.d, -1, true)
			default:
				restart(t, rand.New(rand.NewSource(int64(fuse))), r.d)
			}
			r.reopen()
			if r.wantOneOf(fmt.Sprint("behind a crash at the call ", fuse), was, is) {
				new++
			} else {
				old++
			}
			// It goes on from there.
			r.put("more", some(300, fuse))
			r.commit()
			r.reopen()
			r.same("more")
		}
	}
	if old < 50 || new < 10 {
		t.Errorf("%d crashes left what was, %d what should be", old, new)
	}
}

// P9.7: long ways with commits, Aborts and crashes between, again and again.
func TestLongWaysWithCrashes(t *testing.T) {
	for seed := range 12 {
		t.Run(fmt.Sprint(seed), func(t *testing.T) {
			t.Parallel()
			rnd := rand.New(rand.NewSource(int64(seed)))
			r := newRig(t, 500, 300)
			r.p = pagesOf(t, r.d, 120)
			r.x = treeOf(t, r.p, 2)
			was := map[string]string{}
			for i := range 250 {
				for range rnd.Intn(10) {
					want(t, "a deed", someDeed(rnd, i)(r), api.OK)
				}
				r.counts("a step")
				if rnd.Intn(3) == 0 {
					want(t, "SetFuse", r.d.SetFuse(rnd.Intn(60)), api.OK)
				}
				switch e := r.end(rnd); e {
				case api.ErrDown:
					restart(t, rnd, r.d)
					r.reopen()
					r.wantOneOf("a crash", was, r.m)
				case api.OK:
					want(t, "SetFuse", r.d.SetFuse(0), api.OK)
				default:
					t.Fatalf("%d", e)
				}
				if r.p.Staged() == 0 {
					was = maps.Clone(r.m)
					continue
				}
				want(t, "Abort", r.p.Abort(), api.OK)
				r.m = maps.Clone(was)
				r.counts("Abort")
				if i%10 == 0 {
					r.same("Abort")
				}
			}
			r.same("at last")
		})
	}
}

// end commits, mostly, or leaves what is staged to an Abort.
func (r *rig) end(rnd *rand.Rand) api.Errno {
	if rnd.Intn(4) == 0 {
		return api.OK
	}
	return r.p.Commit()
}

// someDeed puts or deletes a key out of few.
func someDeed(rnd *rand.Rand, i int) deed {
	key := fmt.Sprintf("%02d", rnd.Intn(90))
	key += some(int(key[1]-'0')*10, 1)
	if rnd.Intn(5) < 2 {
		return deleting(key)
	}
	return putting(key, some(rnd.Intn(1<<rnd.Intn(11)), i))
}

// P9.7: behind an Abort the tree is what it was at the last Commit, whatever was done, and from whatever it was.
func TestAbort(t *testing.T) {
	for seed := range 40 {
		rnd := rand.New(rand.NewSource(int64(seed)))
		r := newRig(t, 3000, 300)
		for range 5 {
			was := maps.Clone(r.m)
			before := image(t, r.p)
			for i := range rnd.Intn(40) {
				want(t, "a deed", someDeed(rnd, i)(r), api.OK)
			}
			if rnd.Intn(4) == 0 {
				for _, x := range r.entries("", "") {
					r.del(x.key)
				}
			}
			want(t, "Abort", r.p.Abort(), api.OK)
			r.m = was
			r.same("Abort")
			if image(t, r.p) != before {
				t.Fatal("the pages are not what they were")
			}
			for i := range rnd.Intn(30) {
				want(t, "a deed", someDeed(rnd, i)(r), api.OK)
			}
			r.commit()
		}
	}
}

// P9.7: what was not committed is not there, when the disk is opened anew.
func TestNotCommitted(t *testing.T) {
	r := newRig(t, 500, 100)
	r.put("a", some(100, 1))
	r.commit()
	was := maps.Clone(r.m)
	r.put("b", some(200, 1))
	r.del("a")
	r.m = was
	r.reopen()
	r.same("opened anew")
}
