package txn

import (
	"testing"

	"ramble/api"
	"ramble/value"
)

// P14.1: a transaction sees the graph, and then what its own changes make of it, call by call; nobody else sees these.
func TestDo(t *testing.T) {
	f := made(t, api.Graph{V: []api.Vertex{v(1, "a"), v(2, "a")}, Last: 2})
	f.begins(2)
	f.wantSees(1, api.Graph{V: []api.Vertex{v(1, "a"), v(2, "a")}, Last: 2})
	f.wantOwn(1)

	one := []api.Change{addsE(4, "k", 1, 2), sets(-4, "x", list(value.Int(1), list(value.Str("s"))))}
	f.wantDone(1, one...)
	f.wantSees(1, api.Graph{
		V: []api.Vertex{v(1, "a"), v(2, "a")}, E: []api.Link{e(4, "k", 1, 2, p("x", list(value.Int(1), list(value.Str("s")))))}, Last: 4,
	})
	f.wantOwn(1, one...)

	f.wantDone(1)
	f.wantOwn(1, one...)

	two := []api.Change{addsV(3, "b"), drops(2), unsets(1, "x"), lastIs(9), lastIs(1)}
	f.wantDone(1, two...)
	f.wantSees(1, api.Graph{V: []api.Vertex{v(1, "a"), v(3, "b")}, Last: 9})
	f.wantOwn(1, append(one, two...)...)

	f.wantDone(1, addsE(2, "k", 3, 3))
	f.wantSees(1, api.Graph{V: []api.Vertex{v(1, "a"), v(3, "b")}, E: []api.Link{e(2, "k", 3, 3)}, Last: 9})

	f.wantSees(2, api.Graph{V: []api.Vertex{v(1, "a"), v(2, "a")}, Last: 2})
	f.wantOwn(2)
	f.wantLatest(api.Graph{V: []api.Vertex{v(1, "a"), v(2, "a")}, Last: 2})
}

// P14.1: changes that come to nothing are a transaction's own ones, too.
func TestDoOfNothingNew(t *testing.T) {
	f := made(t, sample())
	id := f.one()
	l := []api.Change{sets(1, "age", value.Int(30)), unsets(9, "none"), lastIs(1), addsV(13, "a"), drops(13)}
	f.wantDone(id, l...)
	f.wantOwn(id, l...)
	f.wantCommit(id, 1)
	g := sample()
	g.Last = 13
	f.wantLatest(g)
}

// P14.1: with an error nothing is done, wherever among the changes it comes up; it is the first one's.
func TestDoRefused(t *testing.T) {
	f := made(t, sample())
	f.begins(2)
	good := []api.Change{drops(-10), sets(9, "x", value.Int(1)), addsV(15, "b")}
	f.wantDone(1, good[1])
	for want, l := range badChanges() {
		for _, bad := range l {
			f.wantRefused(1, want, bad)
			f.wantRefused(1, want, good[0], good[2], bad)
			f.wantRefused(1, want, good[0], bad, good[2], addsV(15, "b"))
			f.wantRefused(1, want, bad, api.Change{}, drops(77))
		}
	}
	f.wantOwn(1, good[1])
	f.wantDone(1, good[2], good[0])
	f.wantOwn(1, good[1], good[2], good[0])
}

// P14.1: what was refused depends on what the transaction sees, not on the graph.
func TestDoOnWhatItSees(t *testing.T) {
	f := made(t, sample())
	f.begins(2)
	f.wantDone(1, drops(9), addsV(20, "a"))
	f.wantRefused(1, api.ErrElem, sets(9, "x", value.Int(1)))
	f.wantRefused(1, api.ErrTwice, addsV(20, "a"))
	f.wantRefused(2, api.ErrElem, sets(20, "x", value.Int(1)))
	f.wantDone(2, sets(9, "x", value.Int(1)))
	f.wantDone(1, sets(20, "x", value.Int(1)))
	f.wantCommit(1, 1)
	f.wantRefused(2, api.ErrElem, sets(20, "x", value.Int(1)))
	f.wantDone(2, addsV(20, "b"), unsets(9, "x"))
	if id := f.one(); id != 3 {
		t.Fatal("Begin", id)
	}
	f.wantRefused(3, api.ErrElem, sets(9, "x", value.Int(1)))
	f.wantRefused(3, api.ErrTwice, addsV(20, "b"))
}

// P14.1: graph's errors of properties and names, and those of values.
func TestDoOfTooMany(t *testing.T) {
	g := api.Graph{V: []api.Vertex{v(1, "a")}, Last: 1}
	f := made(t, g)
	id := f.one()
	for i := range api.MaxProps {
		f.wantDone(id, sets(1, string(rune('a'+i)), value.Int(0)))
	}
	f.wantRefused(id, api.ErrProps, sets(1, "z", value.Int(0)))
	f.wantDone(id, sets(1, "a", value.Int(1)))
	f.wantDone(id, unsets(1, "b"), sets(1, "z", value.Int(0)))
}

// P14.1: there are MaxElems of a kind at most in what a transaction sees.
func TestDoInFullGraphs(t *testing.T) {
	f := made(t, full(api.MaxElems, api.MaxElems-1))
	id := f.one()
	f.wantRefused(id, api.ErrFull, addsV(9000, "a"))
	f.wantDone(id, addsE(9000, "a", 1, 1))
	f.wantRefused(id, api.ErrFull, addsE(9001, "a", 1, 1))
	f.wantDone(id, drops(-9000), drops(api.MaxElems), addsV(9001, "a"), addsE(9002, "a", 9001, 9001))
	f.wantCommit(id, 1)
	f.wantRefused(f.one(), api.ErrFull, addsV(9003, "a"))
}
