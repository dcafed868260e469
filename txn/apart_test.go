package txn

import (
	"fmt"
	"reflect"
	"testing"

	"ramble/api"
	"ramble/delta"
	"ramble/value"
)

// R3: what was handed in, what stands within, and all answers, of one call twice, too, have no memory in common: neither lists of anything nor the room behind those that are empty.
func TestApart(t *testing.T) {
	g := roomy(reflect.ValueOf(sample())).Interface().(api.Graph)
	var l delta.Changes
	for _, c := range []api.Change{
		addsV(13, "a"), addsE(14, "a", 13, 1), sets(13, "x", list(value.Int(1), list(list(), value.Str("s")))), sets(-14, "y", value.Int(1)), unsets(1, "age"), drops(9), lastIs(20),
	} {
		l = append(l, roomy(reflect.ValueOf(c)).Interface().(api.Change))
	}
	all := []any{g, l}
	m, err := New(g)
	wantErr(t, "New", err, api.OK)
	for range 3 {
		m.Begin()
	}
	wantErr(t, "Do", m.Do(1, l...), api.OK)
	wantErr(t, "Do", m.Do(2, lastIs(1)), api.OK)
	ask := func() {
		for _, id := range m.Live() {
			sees, _ := m.See(id)
			own, _ := m.Own(id)
			all = append(all, sees, own)
		}
		past, _ := m.Past(1)
		all = append(all, m.Latest(), m.Live(), past)
	}
	ask()
	ask()
	m.Commit(1)
	ask()
	ask()
	var parts []reflect.Value
	for _, x := range all {
		parts = append(parts, lists(reflect.ValueOf(x))...)
	}
	wantApart(t, "all that was handed in and answered", parts)
}

// R3: what was answered may be changed in all its parts, lists that are appended to included, and nobody sees it.
func TestAnswersMayChange(t *testing.T) {
	f := made(t, sample())
	f.begins(3)
	f.wantDone(1, sets(2, "x", list(value.Int(1))), drops(-3))
	f.wantDone(2, sets(4, "x", list(value.Int(1))))
	f.wantCommit(1, 1)
	before := f.state()
	for range 2 {
		for id := int64(1); id <= 3; id++ {
			if g, err := f.m.See(id); err == api.OK {
				g.V = append(g.V[:1], v(77, "b"))
				g.E = append(g.E[:0], e(78, "b", 1, 1))
				g.V[0].Props = append(g.V[0].Props[:0], p("q", value.Int(0)))
			}
			if l, _ := f.m.Own(id); len(l) > 0 {
				l = append(l[:0], drops(1))
			}
		}
		g := f.m.Latest()
		g.V[0].Props = append(g.V[0].Props, p("q", value.Int(0)))
		g.V = append(g.V, v(77, "b"))
		live := f.m.Live()
		_ = append(live[:0], 99)
		l, _ := f.m.Past(1)
		l[0].Value.L = append(l[0].Value.L[:0], value.Int(7))
		_ = append(l[:0], drops(1))
	}
	wantText(t, "behind changed answers", f.state(), before)
	f.wantCommit(2, 2)
	if fmt.Sprint(f.m.Live()) != "[3]" {
		t.Error("Live")
	}
}
