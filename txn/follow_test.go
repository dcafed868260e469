package txn

import (
	"fmt"
	"math/rand"
	"testing"

	"ramble/api"
	"ramble/delta"
	"ramble/value"
)

// pair is a manager and the model of it, which do the same.
type pair struct {
	face
	model *model
}

func pairOf(t testing.TB, g api.Graph) pair {
	t.Helper()
	return pair{made(t, g), modelOf(g)}
}

// step does something by chance, and holds what comes of it against the model; it tells the error.
func (x pair) step(r *rand.Rand) api.Errno {
	x.Helper()
	id := x.number(r)
	switch r.Intn(14) {
	case 0, 1, 2:
		got, err := x.begin()
		want, wantErr := x.model.begin()
		return x.same("Begin", got, want, err, wantErr)
	case 3, 4, 5, 6, 7, 8:
		var l []api.Change
		for range r.Intn(4) {
			l = append(l, someChange(r))
		}
		return x.same("Do of "+tellChanges(l), 0, 0, x.do(id, l...), x.model.do(id, l))
	case 9:
		got, err := x.fresh(id)
		want, wantErr := x.model.fresh(id)
		return x.same("Fresh", got, want, err, wantErr)
	case 10:
		return x.same("Abort", 0, 0, x.m.Abort(id), x.model.abort(id))
	}
	got, err := x.commit(id)
	want, wantErr := x.model.commit(id)
	return x.same("Commit", got, want, err, wantErr)
}

// number is that of one under way, most times.
func (x pair) number(r *rand.Rand) int64 {
	l := x.model.numbers()
	if len(l) == 0 || r.Intn(12) == 0 {
		return int64(r.Intn(40)) - 2
	}
	return l[r.Intn(len(l))]
}

func (x pair) same(what string, got, want int64, err, wantErr api.Errno) api.Errno {
	x.Helper()
	if got != want || err != wantErr {
		x.Fatalf("%s: got %d, %d, want %d, %d, behind\n%s", what, got, err, want, wantErr, x.model.state())
	}
	wantText(x, "behind "+what, x.state(), x.model.state())
	return err
}

// P14.1 to P14.6: whatever is called, one behind the other, comes to what the chapter's sentences say.
func TestAnyCalls(t *testing.T) {
	for seed := range 60 {
		t.Run(fmt.Sprint(seed), func(t *testing.T) {
			t.Parallel()
			r := rand.New(rand.NewSource(int64(seed)))
			g := api.Graph{V: []api.Vertex{v(1, "a"), v(2, "a"), v(3, "b", p("x", value.Int(1)))}, E: []api.Link{e(4, "a", 1, 2), e(5, "b", 2, 3)}, Last: 5}
			if seed%6 == 0 {
				g = api.Graph{}
			}
			x := pairOf(t, g)
			errs := map[api.Errno]int{}
			for range 250 {
				errs[x.step(r)]++
			}
			if errs[api.OK] < 50 || errs[api.ErrNone] == 0 || errs[api.ErrElem]+errs[api.ErrTwice] == 0 {
				t.Error("errors: ", errs)
			}
			wantText(t, "all that was committed", x.latest(), tell(x.model.inOrder()))
		})
	}
}

// P14.4: what a transaction sees is the same, whatever others do, commit or abort, and what Fresh tells them.
func TestSnapshots(t *testing.T) {
	for seed := range 40 {
		r := rand.New(rand.NewSource(int64(seed)))
		f := made(t, sample())
		for range r.Intn(3) {
			id := f.one()
			f.do(id, someChange(r))
			f.commit(id)
		}
		id := f.one()
		for range r.Intn(4) {
			f.do(id, someChange(r))
		}
		sees, _ := f.see(id)
		own, _ := f.own(id)
		others := f.begins(4)
		for range 40 {
			i := r.Intn(len(others))
			switch r.Intn(6) {
			case 0:
				f.commit(others[i])
				others[i] = f.one()
			case 1:
				f.m.Abort(others[i])
				others[i] = f.one()
			case 2:
				f.fresh(others[i])
			default:
				f.do(others[i], someChange(r))
			}
			now, err := f.see(id)
			wantErr(t, "See", err, api.OK)
			wantText(t, "See", now, sees)
			now, _ = f.own(id)
			wantText(t, "Own", now, own)
		}
	}
}

// P14.5, example 1: of two that set a property of one vertex the first one that commits is committed, whichever began first.
func TestFirstCommitterWins(t *testing.T) {
	for _, first := range []int64{1, 2} {
		f := made(t, sample())
		f.begins(2)
		f.wantDone(1, sets(1, "x", value.Int(1)))
		f.wantDone(2, sets(1, "x", value.Int(2)))
		f.wantCommit(first, 1)
		f.wantNoCommit(3-first, api.ErrConflict)
		g := sample()
		g.V[0].Props = append(g.V[0].Props, p("x", value.Int(first)))
		f.wantLatest(g)
	}
}

// P14.5: of all under way together that write elements of one id one alone is committed; one that failed may be begun anew.
func TestOneOfMany(t *testing.T) {
	r := rand.New(rand.NewSource(14))
	for range 20 {
		f := made(t, sample())
		l := f.begins(api.MaxLive)
		for i, id := range l {
			f.wantDone(id, addsV(int64(100+i), "a"), sets(9, "x", value.Int(id)))
		}
		for i, at := range r.Perm(api.MaxLive) {
			if i == 0 {
				f.wantCommit(l[at], 1)
			} else {
				f.wantNoCommit(l[at], api.ErrConflict)
			}
		}
		id := f.one()
		f.wantDone(id, sets(9, "x", value.Int(1)))
		f.wantCommit(id, 2)
	}
}

// P14.6: a commit's only errors are ErrConflict, and ErrFull in full graphs, and the graph is what all committed changes come to.
func TestOneBehindTheOther(t *testing.T) {
	committed, conflicts := 0, 0
	for seed := range 200 {
		r := rand.New(rand.NewSource(int64(seed)))
		x := pairOf(t, sample())
		for range 20 {
			many := 2 + r.Intn(4)
			for range many {
				x.begin()
				x.model.begin()
			}
			for range 4 * many {
				id, c := x.number(r), someChange(r)
				if x.do(id, c) == api.OK {
					x.model.do(id, []api.Change{c})
				}
			}
			for range r.Intn(many) {
				id := x.number(r)
				_, err := x.commit(id)
				x.model.commit(id)
				switch err {
				case api.OK:
					committed++
				case api.ErrConflict:
					conflicts++
				case api.ErrNone:
				default:
					t.Fatal("Commit: ", err)
				}
			}
			wantText(t, "Latest", x.latest(), tell(x.model.inOrder()))
			for len(x.model.numbers()) > 10 {
				id := x.model.numbers()[0]
				x.m.Abort(id)
				x.model.abort(id)
			}
		}
	}
	if committed < 2000 || conflicts < 200 {
		t.Errorf("%d were committed, %d not", committed, conflicts)
	}
}

// P14.2, P14.6: of two that began together, one of one change and one of at most two, the second commit is a conflict where delta tells one in the graph that both saw; else it comes to the same in either order.
func TestAnyTwo(t *testing.T) {
	g := api.Graph{V: []api.Vertex{v(1, "a", p("x", value.Int(1))), v(2, "a")}, E: []api.Link{e(3, "k", 1, 2)}, Last: 3}
	few := []api.Change{
		addsV(4, "a"), addsV(5, "b"), addsE(5, "k", 1, 2), addsE(6, "k", 2, 2), addsE(6, "k", 1, 4), addsE(3, "l", 2, 1), sets(1, "x", value.Int(2)), sets(2, "x", value.Int(1)),
		sets(-3, "x", value.Int(2)), sets(4, "x", value.Int(3)), unsets(1, "x"), drops(1), drops(2), drops(-3), drops(4), drops(-6), lastIs(9),
	}
	var short, long []delta.Changes
	for _, one := range few {
		if _, _, err := delta.Apply(g, one); err == api.OK {
			short = append(short, delta.Changes{one})
		}
		for _, other := range few {
			if l := (delta.Changes{one, other}); done(g, l) {
				long = append(long, l)
			}
		}
	}
	long = append(long, short...)
	conflicts := 0
	for _, a := range short {
		for _, b := range long {
			if wantTwo(t, g, a, b); delta.Conflict(g, a, b) {
				conflicts++
			}
		}
	}
	if len(long) < 100 || conflicts < 500 {
		t.Error(len(long), conflicts)
	}
}

func done(g api.Graph, l delta.Changes) bool {
	_, _, err := delta.Apply(g, l...)
	return err == api.OK
}

func wantTwo(t *testing.T, g api.Graph, a, b delta.Changes) {
	t.Helper()
	conflict := delta.Conflict(g, a, b)
	var graphs []string
	for first := range int64(2) {
		f := made(t, g)
		f.begins(2)
		f.wantDone(1, a...)
		f.wantDone(2, b...)
		wantBoth(f, 1+first, 2-first, 1, conflict)
		graphs = append(graphs, f.latest())
	}
	if !conflict && graphs[0] != graphs[1] {
		t.Fatalf("%s and %s: %s, or %s", tellOwn(a), tellOwn(b), graphs[0], graphs[1])
	}
}
