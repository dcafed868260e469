package txn

import (
	"testing"

	"ramble/api"
	"ramble/value"
)

// P14.1: New is over any graph that may be, the empty and the fullest one included: the version is 0, and nobody is under way.
func TestNew(t *testing.T) {
	for _, g := range []api.Graph{{}, {Last: 1}, {Last: api.MaxId}, {V: []api.Vertex{}, E: []api.Link{}}, sample(), full(api.MaxElems, api.MaxElems), {V: []api.Vertex{v(api.MaxId, "a")}, Last: api.MaxId}} {
		f := made(t, g)
		f.wantLatest(g)
		f.wantLive("[]")
		if version := f.m.Version(); version != 0 {
			t.Error("the version is ", version)
		}
		f.wantNoPast(-1, 0, 1, 2)
	}
}

// P14.1: New of a graph that may not be is graph.Check's error, and no manager.
func TestNewOfWrongGraphs(t *testing.T) {
	for _, g := range mayNot() {
		f, err := newOf(t, g)
		wantErr(t, "New of "+tell(g), err, api.ErrGraph)
		f.wantAll(1, api.ErrMade)
	}
}

// P14.1: two managers have nothing in common.
func TestManagersApart(t *testing.T) {
	f, other := made(t, sample()), made(t, sample())
	f.begins(2)
	f.wantDone(1, drops(9))
	f.wantFresh(2, 13)
	f.wantCommit(1, 1)
	other.wantLatest(sample())
	other.wantAll(1, api.ErrNone)
	if id := other.one(); id != 1 {
		t.Error("Begin", id)
	}
	other.wantFresh(1, 13)
}

// P14.1: numbers go on from 1, whatever became of those ahead; a Begin that is refused takes none.
func TestNumbers(t *testing.T) {
	f := made(t, sample())
	next := int64(1)
	begin := func() int64 {
		id := f.one()
		if id != next {
			t.Fatalf("Begin: %d, want %d", id, next)
		}
		next++
		return id
	}
	f.wantAbort(begin())
	f.wantCommit(begin(), 0)
	id := begin()
	f.wantDone(id, lastIs(20))
	f.wantCommit(id, 1)
	one, other := begin(), begin()
	f.wantDone(one, drops(9))
	f.wantDone(other, drops(9))
	f.wantCommit(one, 2)
	f.wantNoCommit(other, api.ErrConflict)
	for range api.MaxLive {
		begin()
	}
	for range 3 {
		_, err := f.begin()
		wantErr(t, "Begin", err, api.ErrFull)
	}
	f.wantAbort(next - 2)
	begin()
	f.wantLive("[6 7 8 9 10 11 12 13 14 15 16 17 18 19 21 22]")
}

// P14.1, P14.2: MaxLive are under way at most, and one more behind each Commit, whatever comes of it, and each Abort.
func TestMaxLive(t *testing.T) {
	f := made(t, sample())
	wantFull := func() {
		t.Helper()
		before := f.state()
		_, err := f.begin()
		wantErr(t, "Begin", err, api.ErrFull)
		wantText(t, "behind Begin", f.state(), before)
	}
	f.begins(api.MaxLive - 1)
	f.begins(1)
	wantFull()
	f.wantAbort(16)
	f.begins(1)
	wantFull()
	f.wantCommit(3, 0)
	f.begins(1)
	wantFull()
	f.wantDone(1, sets(9, "x", value.Int(1)))
	f.wantDone(2, sets(9, "x", value.Int(1)))
	f.wantCommit(1, 1)
	f.begins(1)
	wantFull()
	f.wantNoCommit(2, api.ErrConflict)
	f.begins(1)
	wantFull()
	f.wantLive("[4 5 6 7 8 9 10 11 12 13 14 15 17 18 19 20]")
}

// P14.1, P14.2: ErrNone, ahead of all that may be wrong with what is done, of all numbers that nobody under way has.
func TestNoSuchNumber(t *testing.T) {
	f := made(t, sample())
	for _, id := range append(wildNumbers(), 0, 1, 2) {
		f.wantAll(id, api.ErrNone)
	}
	f.begins(4)
	f.wantDone(1, drops(9))
	f.wantDone(2, drops(9))
	f.wantCommit(1, 1)
	f.wantNoCommit(2, api.ErrConflict)
	f.wantAbort(3)
	before := f.state()
	for _, id := range append(wildNumbers(), 0, 1, 2, 3, 5) {
		f.wantAll(id, api.ErrNone)
	}
	wantText(t, "behind all that was refused", f.state(), before)
	f.wantSees(4, sample())
	f.wantFresh(4, 13)
}
