package txn

import (
	"math"
	"testing"

	"ramble/api"
	"ramble/value"
)

// P14.3: Past tells a version's changes, as they were done, as long as one under way began below it, whichever of the two ended first.
func TestPast(t *testing.T) {
	f := made(t, sample())
	nobody := append(wildNumbers(), 0, 1, 2, 3, 4)
	f.wantNoPast(nobody...)
	f.begins(2)
	f.wantNoPast(nobody...)
	one := []api.Change{sets(1, "x", list(value.Int(1), list(value.Int(2)))), unsets(1, "x"), addsE(13, "k", 1, 1)}
	f.wantDone(1, one[0])
	f.wantDone(1, one[1:]...)
	f.wantCommit(1, 1)
	f.wantPast(1, one...)
	f.wantNoPast(append(wildNumbers(), 0, 2, 3, 4)...)

	third := f.one()
	two := []api.Change{drops(9)}
	f.wantDone(f.one(), two...)
	f.wantCommit(4, 2)
	f.wantPast(1, one...)
	f.wantPast(2, two...)
	f.wantNoPast(append(wildNumbers(), 0, 3, 4)...)

	f.wantAbort(2)
	f.wantNoPast(append(wildNumbers(), 0, 1, 3, 4)...)
	f.wantPast(2, two...)
	f.wantCommit(third, 2)
	f.wantNoPast(nobody...)

	f.begins(2)
	f.wantNoPast(nobody...)
	f.wantDone(6, drops(4))
	f.wantCommit(6, 3)
	f.wantPast(3, drops(4))
	f.wantNoPast(append(wildNumbers(), 0, 1, 2, 4)...)
}

// P14.3: it is the same how the last one that began below ended: a commit of changes, of none, one that was refused, an abort.
func TestPastNoMore(t *testing.T) {
	for way := range 4 {
		f := made(t, sample())
		f.begins(2)
		f.wantDone(1, drops(9))
		f.wantCommit(1, 1)
		f.wantPast(1, drops(9))
		next := int64(1)
		switch way {
		case 0:
			f.wantDone(2, drops(4))
			f.wantCommit(2, 2)
			next = 2
		case 1:
			f.wantCommit(2, 1)
		case 2:
			f.wantDone(2, drops(9))
			f.wantNoCommit(2, api.ErrConflict)
		case 3:
			f.wantDone(2, drops(9))
			f.wantAbort(2)
		}
		f.wantNoPast(-1, 0, 1, 2, 3)
		f.begins(2)
		f.wantNoPast(-1, 0, 1, 2, 3)
		f.wantDone(4, drops(1))
		f.wantCommit(4, next+1)
		f.wantNoPast(-1, 0, 1, next, next+2)
		f.wantPast(next+1, drops(1))
	}
}

// P14.3: of versions that many began between, Past tells those above the least one at which one under way began.
func TestPastOfMany(t *testing.T) {
	const many = 12
	f := made(t, loose(many))
	var began []int64 // began[i]: one that began at the version i
	for i := range int64(many) {
		began = append(began, f.one())
		id := f.one()
		f.wantDone(id, sets(i+1, "x", value.Int(i)))
		f.wantCommit(id, i+1)
	}
	gone := map[int]bool{}
	for _, end := range []int{3, 0, 7, 1, 11, 2, 5, 4, 9, 6, 10, 8} {
		f.wantAbort(began[end])
		gone[end] = true
		least := 0
		for gone[least] {
			least++
		}
		for i := range many {
			if i < least {
				f.wantNoPast(int64(i + 1))
			} else {
				f.wantPast(int64(i+1), sets(int64(i+1), "x", value.Int(int64(i))))
			}
		}
		f.wantNoPast(math.MinInt64, -1, 0, many+1, math.MaxInt64)
	}
}

// P14.3: Live and Version, as they go on.
func TestLiveAndVersion(t *testing.T) {
	f := made(t, sample())
	want := func(live string, version int64) {
		t.Helper()
		f.wantLive(live)
		if got := f.m.Version(); got != version {
			t.Fatalf("Version: %d, want %d", got, version)
		}
	}
	want("[]", 0)
	f.begins(12)
	want("[1 2 3 4 5 6 7 8 9 10 11 12]", 0)
	f.wantDone(5, drops(9))
	f.wantDone(11, drops(9))
	want("[1 2 3 4 5 6 7 8 9 10 11 12]", 0)
	f.wantCommit(11, 1)
	want("[1 2 3 4 5 6 7 8 9 10 12]", 1)
	f.wantNoCommit(5, api.ErrConflict)
	f.wantAbort(1)
	f.wantCommit(12, 1)
	want("[2 3 4 6 7 8 9 10]", 1)
	f.begins(1)
	want("[2 3 4 6 7 8 9 10 13]", 1)
}
