package gstore

import (
	"fmt"
	"iter"
	"slices"
	"testing"

	"ramble/api"
	"ramble/value"
)

// P12.3: a loop may be left behind any of what it tells, and then nothing more is told; what was told is the beginning of all; gone through again it begins anew.
func TestLeftEarly(t *testing.T) {
	t.Parallel()
	s := holding(t, sample()).s
	for id := range int64(16) {
		for _, labels := range [][]string{nil, {"knows"}, {"know"}, {"likes"}} {
			leftEarly(t, s.Out(id, labels...), tellLink)
			leftEarly(t, s.In(id, labels...), tellLink)
		}
	}
	for _, kind := range []int{api.VVertex, api.VEdge} {
		for _, labels := range [][]string{nil, {"person"}, {"knows"}} {
			leftEarly(t, s.All(kind, labels...), value.Text)
		}
		for _, name := range []string{"age", "name", "since"} {
			for _, x := range append(alike(), value.Int(30)) {
				leftEarly(t, s.Find(kind, name, x), value.Text)
			}
		}
	}
}

func leftEarly[T any](t *testing.T, seq iter.Seq[T], text func(x T) string) {
	t.Helper()
	var whole []string
	for x := range seq {
		whole = append(whole, text(x))
	}
	for count := 1; count <= len(whole); count++ {
		var l []string
		over := 0
		seq(func(x T) bool {
			if len(l) == count {
				over++
				return false
			}
			l = append(l, text(x))
			return len(l) < count
		})
		if over > 0 || !slices.Equal(l, whole[:count]) {
			t.Fatalf("left behind %d: %q, of %q; %d more were told", count, l, whole, over)
		}
	}
}

// P12.3: loops may stand one within the other, with calls between.
func TestLoopsWithinLoops(t *testing.T) {
	g := sample()
	s := holding(t, g).s
	var got, w []string
	for x := range s.All(api.VVertex) {
		for l := range s.Out(x.N) {
			for y := range s.All(api.VEdge, l.Label) {
				got = append(got, fmt.Sprint(x.N, l.Id, y.N))
				if y.N == l.Id {
					break
				}
			}
			if _, err := s.V(l.In); err != api.OK {
				t.Fatalf("V: %d", err)
			}
		}
	}
	for _, x := range g.V {
		var l []api.Link
		for _, y := range g.E {
			if y.Out == x.Id {
				l = append(l, y)
			}
		}
		slices.SortStableFunc(l, func(a, b api.Link) int {
			switch {
			case a.Label < b.Label:
				return -1
			case a.Label > b.Label:
				return 1
			}
			return 0
		})
		for _, y := range l {
			for _, z := range g.E {
				if z.Label == y.Label && z.Id <= y.Id {
					w = append(w, fmt.Sprint(x.Id, y.Id, z.Id))
				}
			}
		}
	}
	wantTold(t, "loops", got, w)
}

// P12.3: what is told is read when it is told: what was saved ahead of going through it is told, though it was asked for earlier.
func TestAskedEarlier(t *testing.T) {
	r := roomyRig(t)
	out, all := r.s.Out(1, "knows"), r.s.All(api.VVertex)
	find := r.s.Find(api.VVertex, "age", value.Int(30))
	r.save(sample())
	wantTold(t, "Out", byLabels(out), []string{tellLink(sample().E[0]), tellLink(sample().E[3])})
	wantTold(t, "All", texts(all), []string{"v[1]", "v[2]", "v[4]", "v[9]", "v[14]"})
	wantTold(t, "Find", texts(find), []string{"v[1]", "v[2]"})
	r.save(api.Graph{})
	wantTold(t, "Out", byLabels(out), nil)
	wantTold(t, "All", texts(all), nil)
	wantTold(t, "Find", texts(find), nil)
}

// P1: a Save in the midst of a loop does no harm, though what the loop tells then is not promised.
func TestSaveWithinLoops(t *testing.T) {
	for _, g := range []api.Graph{{}, changed(t), far()} {
		r := holding(t, sample())
		for range r.s.Out(1) {
			r.save(g)
		}
		r.save(sample())
		for range r.s.Find(api.VVertex, "age", value.Int(30)) {
			r.save(g)
		}
		r.save(sample())
		for range r.s.All(api.VEdge) {
			r.save(g)
		}
		reads(t, "saved", r.s, g, few(g))
	}
}
