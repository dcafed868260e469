package pager

import (
	"fmt"
	"math/rand"
	"testing"

	"ramble/api"
	"ramble/disk"
)

// bursts calls then with bits of each kind, from each place of a sector on: one bit, two that lie 32 apart, all 32, and some.
func bursts(then func(at int, bits uint32)) {
	r := rand.New(rand.NewSource(9))
	for at := range 8 * api.SectorLen {
		for _, bits := range []uint32{1, 3, 1<<31 | 1, 1<<32 - 1, r.Uint32() | 1} {
			then(at, bits)
		}
	}
}

func turn(t testing.TB, d *disk.Disk, n, at int, bits uint32) {
	t.Helper()
	if e := d.Burst(n, at, bits); e != api.OK {
		t.Fatalf("Burst: %d", e)
	}
}

// P7.6: bits within 32 turned in each of a page's four sectors: where the page is not in memory that is told, and nothing else; where it is, its bytes are told as they were.
func TestDamage(t *testing.T) {
	for _, length := range []int{0, 60, 448} {
		b := string(some(length, 1))
		d, p := settled(t, 20, 4, "x", b, "y")
		for i := range 4 {
			at := 2 + 20 + 8 + i
			bursts(func(bit int, bits uint32) {
				turn(t, d, at, bit, bits)
				wantGet(t, p, 2, "", api.ErrDamage)
				turn(t, d, at, bit, bits)
			})
			wantCounts(t, "damaged", p, 4, 0, 0, false)
		}
		if p.Held() != 0 {
			t.Fatalf("%d held", p.Held())
		}
		wantView(t, "as it was", p, texts("x", b, "y"))
		for i := range 4 {
			bursts(func(bit int, bits uint32) {
				turn(t, d, 2+20+8+i, bit, bits)
				wantGet(t, p, 2, b, api.OK)
				turn(t, d, 2+20+8+i, bit, bits)
			})
		}
	}
}

// P7.6: the same where the page was committed, and not written to its sectors yet: neither damage there nor damage in the log makes Get tell other bytes.
func TestDamageBehindCommit(t *testing.T) {
	w := string(some(300, 1))
	d, p := filled(t, 6, 4, "x", w, "y")
	inLog, inSectors := []int{2, 3, 4, 5, 6, 7}, []int{16, 17, 18, 19}
	for _, held := range []bool{true, false} {
		damaged := 0
		for _, n := range append(inLog, inSectors...) {
			bursts(func(at int, bits uint32) {
				if !held {
					p.pool.drop(2)
				}
				turn(t, d, n, at, bits)
				b, e := p.Get(2)
				turn(t, d, n, at, bits)
				if e == api.ErrDamage && b == nil {
					damaged++
				} else if e != api.OK || string(b) != w {
					t.Fatalf("held %v, sector %d, bit %d: %q, %d", held, n, at, b, e)
				}
			})
		}
		if held == (damaged > 0) {
			t.Errorf("held %v: %d times ErrDamage", held, damaged)
		}
	}
}

// P7.2, P7.7: where the log is damaged, Checkpoint, and a Commit that needs one, are refused and change nothing; when it is whole again they are done.
func TestCheckpointOfDamage(t *testing.T) {
	d, p := filled(t, 4, 4, "x", string(some(100, 1)))
	set(t, p, 2, nil)
	want(t, "Abort", p.Abort(), api.OK)
	turn(t, d, 3, 100, 1)
	set(t, p, 1, some(300, 4))
	before, held := look(d), p.Held()
	wantGet(t, p, 2, "", api.ErrDamage)
	want(t, "Checkpoint", p.Checkpoint(), api.ErrDamage)
	want(t, "Commit", p.Commit(), api.ErrDamage)
	wantCounts(t, "refused", p, 4, 1, 1, false)
	if p.Held() != held {
		t.Errorf("%d held, want %d", p.Held(), held)
	}
	wantSame(t, "refused", d, before)
	turn(t, d, 3, 100, 1)
	want(t, "Commit", p.Commit(), api.OK)
	wantReopened(t, "whole again", d, texts(string(some(300, 4)), string(some(100, 1))))
}

// P7.2, P1: a frame in the log that has fewer bytes than it had is damage as any other.
func TestShorterFrame(t *testing.T) {
	d, p := filled(t, 6, 4, "x", string(some(100, 1)))
	p.pool.drop(2)
	lay(t, d, 3, written(3, 2<<16+1, []byte{1}))
	wantGet(t, p, 2, "", api.ErrDamage)
	want(t, "Checkpoint", p.Checkpoint(), api.ErrDamage)
}

// P7.2, P7.6: a page in sectors that hold other frames, or that are torn, is not as it was written; it may be set, and is whole again.
func TestOtherFrames(t *testing.T) {
	right := sectorsOf(2, some(150, 2))
	for i := range 4 {
		at := 2 + 20 + 8 + i
		pay := right[i][10 : 10+right[i][1]]
		for what, change := range map[string]func(d *disk.Disk){
			"zeros":        func(d *disk.Disk) { lay(t, d, at, api.Sector{}) },
			"torn":         func(d *disk.Disk) { tear(t, d, at) },
			"another kind": func(d *disk.Disk) { lay(t, d, at, written(2, int64(8+i), pay)) },
			"another page": func(d *disk.Disk) { lay(t, d, at, written(4, int64(4+i), pay)) },
			"another part": func(d *disk.Disk) { lay(t, d, at, right[(i+1)%4]) },
		} {
			d, p := settled(t, 20, 4, "x", string(some(150, 2)), "y")
			change(d)
			wantGet(t, p, 2, "", api.ErrDamage)
			wantGet(t, p, 1, "x", api.OK)
			wantCounts(t, what, p, 4, 0, 0, false)
			wantGet(t, open(t, d, 8), 2, "", api.ErrDamage)
			p = open(t, d, 8)
			set(t, p, 2, []byte("new"))
			wantGet(t, p, 2, "new", api.OK)
			want(t, "Abort", p.Abort(), api.OK)
			wantGet(t, p, 2, "", api.ErrDamage)
			set(t, p, 2, []byte("new"))
			want(t, "Commit", p.Commit(), api.OK)
			wantReopened(t, fmt.Sprint(what, i), d, texts("x", "new", "y"))
		}
	}
}

// P7.2: bytes in a sector, behind one that is not full, are none of a page as it is written.
func TestBytesBehindAGap(t *testing.T) {
	b := some(150, 2)
	for what, cuts := range map[string][5]int{
		"the first one not full": {0, 111, 150, 150, 150},
		"none in the first one":  {0, 0, 112, 150, 150},
		"none in the second one": {0, 112, 112, 150, 150},
		"some in the last one":   {0, 112, 149, 149, 150},
		"as it is written":       {0, 112, 150, 150, 150},
	} {
		d, p := settled(t, 20, 4, "x", string(b), "y")
		for i := range 4 {
			lay(t, d, 2+20+8+i, written(4, int64(8+i), b[cuts[i]:cuts[i+1]]))
		}
		if what == "as it is written" {
			wantGet(t, p, 2, string(b), api.OK)
		} else {
			wantGet(t, p, 2, "", api.ErrDamage)
		}
	}
}
