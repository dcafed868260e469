package txn

import (
	"fmt"
	"testing"

	"ramble/api"
	"ramble/delta"
	"ramble/value"
)

// P14.2: a commit makes its changes everybody's, and the version is one more; whoever is under way sees nothing of it.
func TestCommit(t *testing.T) {
	f := made(t, sample())
	f.begins(2)
	f.wantDone(1, sets(9, "x", list(value.Int(1))), addsE(13, "k", 9, 1))
	f.wantSees(2, sample())
	f.wantCommit(1, 1)
	g := sample()
	g.V[3].Props = []api.Prop{p("x", list(value.Int(1)))}
	g.E = append(g.E, e(13, "k", 9, 1))
	g.Last = 13
	f.wantLatest(g)
	f.wantSees(2, sample())
	f.wantSees(f.one(), g)
	f.wantLive("[2 3]")
}

// P14.2: a commit without changes of its own is the version, whatever was committed meanwhile, and makes none.
func TestCommitOfNothing(t *testing.T) {
	f := made(t, sample())
	f.begins(4)
	f.wantCommit(3, 0)
	f.wantDone(1)
	f.wantDone(2, drops(1))
	f.wantRefused(4, api.ErrElem, drops(7))
	f.wantCommit(2, 1)
	f.wantCommit(1, 1)
	f.wantDone(f.one(), lastIs(1))
	f.wantCommit(5, 2)
	f.wantCommit(4, 2)
	f.wantCommit(f.one(), 2)
	f.wantLive("[]")
}

// P14.2: what was aborted is never done, and is in nobody's way.
func TestAbort(t *testing.T) {
	f := made(t, sample())
	f.begins(3)
	f.wantDone(1, drops(1))
	f.wantDone(2, drops(1))
	f.wantAbort(1)
	f.wantLatest(sample())
	f.wantLive("[2 3]")
	f.wantAbort(3)
	f.wantCommit(2, 1)
	f.wantNoPast(0, 1, 2)
}

// meeting is two lists of changes of the sample, and whether they are in each other's way.
type meeting struct {
	a, b delta.Changes
	is   bool
}

func meetings() []meeting {
	one, other := value.Int(1), value.Int(2)
	return []meeting{
		// Elements of one id.
		{delta.Changes{sets(1, "x", one)}, delta.Changes{sets(1, "x", other)}, true},
		{delta.Changes{sets(1, "x", one)}, delta.Changes{sets(1, "x", one)}, true},
		{delta.Changes{sets(1, "x", one)}, delta.Changes{sets(1, "y", one)}, true},
		{delta.Changes{unsets(1, "none")}, delta.Changes{unsets(1, "nothing")}, true},
		{delta.Changes{sets(1, "x", one)}, delta.Changes{sets(2, "x", one)}, false},
		{delta.Changes{sets(-3, "x", one)}, delta.Changes{unsets(-3, "since")}, true},
		{delta.Changes{sets(-3, "x", one)}, delta.Changes{sets(-5, "x", one)}, false},
		{delta.Changes{sets(-3, "x", one)}, delta.Changes{sets(1, "x", one), sets(2, "x", one)}, false},
		{delta.Changes{drops(9)}, delta.Changes{drops(9)}, true},
		{delta.Changes{drops(9)}, delta.Changes{drops(4)}, false},
		{delta.Changes{addsV(13, "a")}, delta.Changes{addsV(13, "a")}, true},
		{delta.Changes{addsV(13, "a")}, delta.Changes{addsV(14, "a")}, false},
		// Of whatever kind.
		{delta.Changes{addsV(13, "a")}, delta.Changes{addsE(13, "a", 1, 2)}, true},
		{delta.Changes{drops(9), addsE(9, "a", 1, 2)}, delta.Changes{sets(9, "x", one)}, true},
		{delta.Changes{drops(-3), addsV(3, "a")}, delta.Changes{sets(-3, "x", one)}, true},
		{delta.Changes{addsV(13, "a"), drops(13)}, delta.Changes{addsE(13, "a", 1, 2)}, true},
		// Edges that go with a vertex, which the graph alone tells.
		{delta.Changes{drops(4)}, delta.Changes{sets(-6, "x", one)}, true},
		{delta.Changes{drops(4)}, delta.Changes{drops(-10)}, true},
		{delta.Changes{drops(4)}, delta.Changes{drops(2)}, true},
		{delta.Changes{drops(4)}, delta.Changes{drops(-3)}, false},
		{delta.Changes{drops(2)}, delta.Changes{sets(-8, "x", one)}, true},
		{delta.Changes{addsE(13, "a", 9, 1), drops(9)}, delta.Changes{addsV(13, "a")}, true},
		// A vertex that is needed, and dropped or added.
		{delta.Changes{addsE(13, "a", 9, 1)}, delta.Changes{drops(9)}, true},
		{delta.Changes{addsE(13, "a", 1, 9)}, delta.Changes{drops(9)}, true},
		{delta.Changes{addsE(13, "a", 9, 9)}, delta.Changes{drops(9), addsV(9, "a")}, true},
		{delta.Changes{addsE(13, "a", 1, 2), drops(-13)}, delta.Changes{drops(1)}, true},
		{delta.Changes{addsV(14, "a"), addsE(13, "a", 14, 14), drops(14), drops(-5)}, delta.Changes{addsV(14, "a")}, true},
		{delta.Changes{addsE(13, "a", 1, 2)}, delta.Changes{drops(9)}, false},
		{delta.Changes{addsE(13, "a", 1, 2)}, delta.Changes{addsE(14, "a", 1, 2)}, false},
		// A vertex that is needed may change, and its edges may go.
		{delta.Changes{addsE(13, "a", 9, 1)}, delta.Changes{sets(9, "x", one), unsets(1, "age"), drops(-3)}, false},
		{delta.Changes{lastIs(13)}, delta.Changes{lastIs(14)}, false},
		{delta.Changes{lastIs(20)}, delta.Changes{addsV(20, "a")}, false},
	}
}

// P14.2: conflicts, in both directions.
func TestConflicts(t *testing.T) {
	for _, x := range meetings() {
		for _, l := range [][2]delta.Changes{{x.a, x.b}, {x.b, x.a}} {
			t.Run(fmt.Sprintf("%s/%s", tellOwn(l[0]), tellOwn(l[1])), func(t *testing.T) {
				f := made(t, sample())
				f.begins(2)
				f.wantDone(1, l[0]...)
				f.wantDone(2, l[1]...)
				wantBoth(f, 1, 2, 1, x.is)
			})
		}
	}
}

// wantBoth commits two: the first one's is the version, the second one's is a conflict, or the next version.
func wantBoth(f face, a, b, version int64, conflict bool) {
	f.Helper()
	f.wantCommit(a, version)
	if conflict {
		f.wantNoCommit(b, api.ErrConflict)
		return
	}
	f.wantCommit(b, version+1)
}

// P14.2: each version above the one at which a transaction began is asked, the first, the last, and one between; it is the same what came behind.
func TestConflictsWithEachVersion(t *testing.T) {
	for _, x := range meetings() {
		for at := range 4 {
			for _, l := range [][2]delta.Changes{{x.a, x.b}, {x.b, x.a}} {
				f := made(t, sample())
				f.begins(2)
				f.wantDone(1, l[0]...)
				f.wantDone(2, l[1]...)
				commitOthers(f, 0, at)
				f.wantCommit(1, int64(at+1))
				commitOthers(f, at+1, 3-at)
				if x.is {
					f.wantNoCommit(2, api.ErrConflict)
				} else {
					f.wantCommit(2, 5)
				}
			}
		}
	}
}

// commitOthers makes so many versions behind one, of changes that are in nobody's way.
func commitOthers(f face, behind, many int) {
	f.Helper()
	for i := range many {
		id := f.one()
		f.wantDone(id, addsV(int64(100+behind+i), "a"))
		f.wantCommit(id, int64(behind+i+1))
	}
}

// P14.2: what was committed at the version at which a transaction began, or below it, is in its way no more, also while others that began below are under way.
func TestNoConflictBelow(t *testing.T) {
	for _, behind := range []int{1, 3} {
		f := made(t, sample())
		f.begins(2)
		f.wantDone(1, sets(1, "x", value.Int(1)), addsE(13, "a", 4, 9))
		f.wantDone(2, sets(1, "x", value.Int(2)))
		f.wantCommit(1, 1)
		commitOthers(f, 1, behind-1)
		id := f.one()
		f.wantDone(id, sets(1, "x", value.Int(3)), drops(4))
		f.wantCommit(id, int64(behind+1))
		f.wantNoCommit(2, api.ErrConflict)
		id = f.one()
		f.wantDone(id, drops(1), drops(9))
		f.wantCommit(id, int64(behind+2))
	}
}

// P14.2: what each version wrote is told by the graph ahead of it, what a transaction writes by the graph at its own beginning.
func TestWritesInEachGraph(t *testing.T) {
	g := api.Graph{V: []api.Vertex{v(1, "a"), v(2, "a"), v(3, "a")}, E: []api.Link{e(4, "k", 1, 2)}, Last: 4}

	// The edge 4 goes with the vertex 1 in the graph ahead of the version 1.
	f := made(t, g)
	f.begins(2)
	f.wantDone(1, drops(1))
	f.wantDone(2, sets(-4, "x", value.Int(1)))
	wantBoth(f, 1, 2, 1, true)

	// An edge that a version added goes with its vertex in a later version: an id that the third one took, too.
	f = made(t, g)
	f.begins(2)
	f.wantDone(1, addsE(5, "k", 3, 3))
	f.wantDone(2, addsV(5, "a"))
	f.wantCommit(1, 1)
	late := f.one()
	f.wantDone(late, unsets(-5, "none"))
	other := f.one()
	f.wantDone(other, drops(3))
	f.wantCommit(other, 2)
	f.wantNoCommit(late, api.ErrConflict)
	f.wantNoCommit(2, api.ErrConflict)

	// The edge 4 is gone in the graph, and was there when the one that drops its vertex began.
	f = made(t, g)
	f.begins(2)
	f.wantDone(1, drops(-4))
	f.wantDone(2, drops(2))
	wantBoth(f, 1, 2, 1, true)

	// It was gone when that one began.
	f = made(t, g)
	f.begins(1)
	f.wantDone(1, drops(-4))
	f.wantCommit(1, 1)
	f.begins(2)
	f.wantDone(2, drops(2))
	f.wantDone(3, drops(1))
	wantBoth(f, 2, 3, 2, false)
}

// P14.2: ErrFull of the graph, where there are MaxElems of a kind, of which neither one saw too many; then nothing of the changes is done, and they are in nobody's way. Where one goes there is room for one.
func TestCommitOfTooMany(t *testing.T) {
	for _, x := range []struct {
		add  func(id int64) api.Change
		drop int64
	}{
		{func(id int64) api.Change { return addsV(id, "a") }, 9},
		{func(id int64) api.Change { return addsE(id, "a", 1, 1) }, -4000},
	} {
		f := made(t, full(api.MaxElems-1, api.MaxElems-1))
		f.begins(5)
		f.wantDone(1, x.add(9001))
		f.wantDone(2, sets(5, "x", value.Int(1)), x.add(9002), sets(6, "x", value.Int(1)))
		f.wantDone(3, sets(7, "x", value.Int(1)), drops(x.drop), x.add(9003))
		f.wantDone(4, x.add(9004))
		f.wantDone(5, sets(5, "x", value.Int(2)))
		f.wantCommit(1, 1)
		f.wantNoCommit(2, api.ErrFull)
		f.wantCommit(3, 2)
		f.wantCommit(5, 3)
		if x.drop == 9 { // with the vertex two edges went, with the edge no vertex
			f.wantDone(f.one(), addsE(9005, "a", 1, 1), addsE(9006, "a", 1, 1), addsE(9007, "a", 1, 1))
			f.wantCommit(6, 4)
		}
		f.wantNoCommit(4, api.ErrFull)
	}
}

// P14.2: a conflict is named ahead of what delta.Apply finds, and nothing of the changes is done with either.
func TestConflictAheadOfFull(t *testing.T) {
	f := made(t, loose(api.MaxElems-1))
	f.begins(3)
	f.wantDone(1, addsV(9001, "a"), sets(1, "x", value.Int(1)))
	f.wantDone(2, addsV(9002, "a"), sets(1, "x", value.Int(1)))
	f.wantDone(3, sets(2, "x", value.Int(1)), addsV(9002, "a"))
	f.wantCommit(1, 1)
	f.wantNoCommit(2, api.ErrConflict)
	f.wantNoCommit(3, api.ErrFull)
	g := loose(api.MaxElems - 1)
	g.V[0].Props = []api.Prop{p("x", value.Int(1))}
	g.V = append(g.V, v(9001, "a"))
	g.Last = 9001
	f.wantLatest(g)
}

// P14.2: the fullest graphs, taken away and made anew.
func TestCommitOfFullGraphs(t *testing.T) {
	const many = api.MaxElems
	f := made(t, full(many, many))
	f.begins(3)
	var l []api.Change
	for i := range many {
		l = append(l, drops(int64(i+1)))
	}
	f.wantDone(1, l...)
	f.wantDone(2, sets(-2*many, "x", value.Int(1)))
	f.wantCommit(1, 1)
	f.wantLatest(api.Graph{Last: 2 * many})
	f.wantNoCommit(2, api.ErrConflict)
	f.wantSees(3, full(many, many))
	f.wantPast(1, l...)

	id := f.one()
	l = delta.Diff(api.Graph{Last: 2 * many}, full(many, many))
	f.wantDone(id, l...)
	f.wantDone(3, lastIs(7))
	f.wantCommit(id, 2)
	f.wantCommit(3, 3)
	f.wantLatest(full(many, many))
}
