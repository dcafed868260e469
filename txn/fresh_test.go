package txn

import (
	"testing"

	"ramble/api"
)

// P14.1: Fresh is one more than the Last of the graph, and then than what it told last, whoever asked, and whatever became of them.
func TestFresh(t *testing.T) {
	f := made(t, sample())
	f.begins(3)
	f.wantFresh(1, 13)
	f.wantFresh(1, 14)
	f.wantFresh(2, 15)
	f.wantAbort(2)
	f.wantFresh(3, 16)
	f.wantDone(1, addsV(13, "a"))
	f.wantFresh(1, 17)
	f.wantCommit(1, 1)
	f.wantFresh(3, 18)
	f.wantCommit(3, 1)
	f.wantFresh(f.one(), 19)
	f.wantSees(4, func() api.Graph {
		g := sample()
		g.V = append(g.V, v(13, "a"))
		g.Last = 13
		return g
	}())
}

// P14.1: what is told is nobody's change: the graph, and what is seen, have their Last.
func TestFreshChangesNothing(t *testing.T) {
	f := made(t, sample())
	f.begins(2)
	f.wantDone(2, drops(9))
	before := f.state()
	f.wantFresh(1, 13)
	f.wantFresh(2, 14)
	wantText(t, "behind Fresh", f.state(), before)
	f.wantCommit(1, 0)
	f.wantCommit(2, 1)
}

// P14.1: Fresh is above what each one under way sees, the one that asks and others; not above what one saw that is under way no more.
func TestFreshAboveOthers(t *testing.T) {
	f := made(t, api.Graph{})
	f.begins(3)
	f.wantFresh(1, 1)
	f.wantDone(1, addsV(10, "a"))
	f.wantFresh(2, 11)
	f.wantDone(3, lastIs(20))
	f.wantFresh(3, 21)
	f.wantFresh(1, 22)
	f.wantDone(3, addsV(40, "a"), drops(40))
	f.wantAbort(3)
	f.wantFresh(2, 23)
	f.wantDone(1, addsV(30, "a"))
	f.wantCommit(1, 1)
	f.wantFresh(2, 31)
	f.wantDone(2, lastIs(30))
	f.wantFresh(2, 32)
}

// P14.1: Fresh is above the Last of the graph, though the one that asks sees an earlier one.
func TestFreshAboveTheGraph(t *testing.T) {
	f := made(t, api.Graph{Last: 5})
	f.begins(2)
	f.wantDone(1, lastIs(50))
	f.wantCommit(1, 1)
	f.wantSees(2, api.Graph{Last: 5})
	f.wantFresh(2, 51)
}

// P14.1: ErrFull, if no id is left, and then nothing is told; also by what others see, as long as they are under way.
func TestFreshAtMaxId(t *testing.T) {
	wantFull := func(f face, ids ...int64) {
		t.Helper()
		for _, id := range ids {
			before := f.state()
			_, err := f.fresh(id)
			wantErr(t, "Fresh", err, api.ErrFull)
			wantText(t, "behind Fresh", f.state(), before)
		}
	}
	f := made(t, api.Graph{Last: api.MaxId})
	f.begins(2)
	wantFull(f, 1, 2, 1)

	f = made(t, api.Graph{Last: api.MaxId - 1})
	f.begins(2)
	f.wantFresh(1, api.MaxId)
	wantFull(f, 1, 2)
	f.wantDone(1, addsV(api.MaxId, "a"))
	wantFull(f, 1, 2)
	f.wantCommit(1, 1)
	wantFull(f, 2, f.one())

	f = made(t, api.Graph{Last: api.MaxId - 2})
	f.begins(2)
	f.wantDone(1, lastIs(api.MaxId))
	wantFull(f, 1, 2)
	f.wantAbort(1)
	f.wantFresh(2, api.MaxId-1)
	f.wantDone(2, lastIs(api.MaxId-1))
	f.wantFresh(2, api.MaxId)
	wantFull(f, 2)

	f = made(t, api.Graph{})
	f.begins(2)
	f.wantDone(2, lastIs(api.MaxId-1))
	f.wantFresh(1, api.MaxId)
	f.wantAbort(2)
	wantFull(f, 1)
}
