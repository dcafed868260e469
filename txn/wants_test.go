package txn

import (
	"testing"

	"ramble/api"
	"ramble/delta"
)

// The calls with what they must answer.

func made(t testing.TB, g api.Graph) face {
	t.Helper()
	f, err := newOf(t, g)
	wantErr(t, "New", err, api.OK)
	return f
}

func wantErr(t testing.TB, what string, got, want api.Errno) {
	t.Helper()
	if got != want {
		t.Fatalf("%s: got the error %d, want %d", what, got, want)
	}
}

func wantText(t testing.TB, what, got, want string) {
	t.Helper()
	if got != want {
		t.Fatalf("%s:\ngot  %s\nwant %s", what, got, want)
	}
}

// begins begins that many, and tells their numbers.
func (f face) begins(many int) []int64 {
	f.Helper()
	var l []int64
	for range many {
		id, err := f.begin()
		wantErr(f, "Begin", err, api.OK)
		l = append(l, id)
	}
	return l
}

func (f face) one() int64 {
	f.Helper()
	return f.begins(1)[0]
}

func (f face) wantDone(id int64, l ...api.Change) {
	f.Helper()
	wantErr(f, "Do", f.do(id, l...), api.OK)
}

// wantRefused holds that changes are refused, and that nothing is done.
func (f face) wantRefused(id int64, want api.Errno, l ...api.Change) {
	f.Helper()
	before := f.state()
	wantErr(f, "Do of "+tellChanges(l), f.do(id, l...), want)
	wantText(f, "behind Do of "+tellChanges(l), f.state(), before)
}

func (f face) wantSees(id int64, want api.Graph) {
	f.Helper()
	got, err := f.see(id)
	wantErr(f, "See", err, api.OK)
	wantText(f, "See", got, tell(want))
}

func (f face) wantOwn(id int64, want ...api.Change) {
	f.Helper()
	got, err := f.own(id)
	wantErr(f, "Own", err, api.OK)
	wantText(f, "Own", got, tellChanges(want))
}

func (f face) wantFresh(id, want int64) {
	f.Helper()
	got, err := f.fresh(id)
	if got != want || err != api.OK {
		f.Fatalf("Fresh: %d, %d, want %d", got, err, want)
	}
}

func (f face) wantLatest(want api.Graph) {
	f.Helper()
	wantText(f, "Latest", f.latest(), tell(want))
}

func (f face) wantCommit(id, want int64) {
	f.Helper()
	got, err := f.commit(id)
	if got != want || err != api.OK {
		f.Fatalf("Commit of %d: %d, %d, want %d", id, got, err, want)
	}
	f.wantGone(id)
	if version := f.m.Version(); version != want {
		f.Fatalf("Commit of %d: the version is %d, want %d", id, version, want)
	}
}

// wantNoCommit holds that a transaction is not committed, with that error, that it is gone, and that the graph is as it was.
func (f face) wantNoCommit(id int64, want api.Errno) {
	f.Helper()
	graph, version := f.latest(), f.m.Version()
	_, err := f.commit(id)
	wantErr(f, "Commit", err, want)
	f.wantGone(id)
	wantText(f, "Latest behind Commit", f.latest(), graph)
	if f.m.Version() != version {
		f.Fatalf("the version %d behind %d", f.m.Version(), version)
	}
}

func (f face) wantAbort(id int64) {
	f.Helper()
	wantErr(f, "Abort", f.m.Abort(id), api.OK)
	f.wantGone(id)
}

// wantGone holds that no transaction under way has that number.
func (f face) wantGone(id int64) { f.Helper(); f.wantAll(id, api.ErrNone) }

// wantAll holds that each call with that number is refused, and changes nothing.
func (f face) wantAll(id int64, want api.Errno) {
	f.Helper()
	_, err := f.see(id)
	wantErr(f, "See", err, want)
	for _, l := range []delta.Changes{nil, {addsV(500, "a")}, {{}}} {
		wantErr(f, "Do", f.do(id, l...), want)
	}
	_, err = f.fresh(id)
	wantErr(f, "Fresh", err, want)
	_, err = f.own(id)
	wantErr(f, "Own", err, want)
	_, err = f.commit(id)
	wantErr(f, "Commit", err, want)
	wantErr(f, "Abort", f.m.Abort(id), want)
}

func (f face) wantLive(want string) {
	f.Helper()
	wantText(f, "Live", f.live(), want)
}

func (f face) wantPast(version int64, want ...api.Change) {
	f.Helper()
	got, is := f.past(version)
	if !is {
		f.Fatalf("Past(%d): false", version)
	}
	wantText(f, "Past", got, tellChanges(want))
}

// wantNoPast holds that nothing is told of these versions.
func (f face) wantNoPast(versions ...int64) {
	f.Helper()
	for _, version := range versions {
		if l, is := f.past(version); is {
			f.Fatalf("Past(%d): %s", version, l)
		}
	}
}
