package gstore

import (
	"testing"

	"ramble/api"
	"ramble/pager"
	"ramble/value"
)

// R5: of a store that no call made: ErrMade, ahead of all else; nothing is told.
func TestNotMade(t *testing.T) {
	refused, _ := Open(nil, 0)
	zero, _ := Open(new(pager.Pager), 1)
	for i, s := range []*Store{nil, {}, new(Store), refused, zero} {
		_, err := load(t, s)
		want(t, "Load", err, api.ErrMade)
		for _, g := range []api.Graph{{}, sample(), {Last: -1}, tooLong()} {
			want(t, "Save", save(t, s, g), api.ErrMade)
		}
		a := everything(sample())
		for _, id := range a.ids {
			_, err := vertexOf(t, s, id)
			want(t, "V", err, api.ErrMade)
			_, err = linkOf(t, s, id)
			want(t, "E", err, api.ErrMade)
			for _, labels := range a.labels {
				wantTold(t, "Out", toldWith(t, "Out", outOf(s, id), labels, tellLink), nil)
				wantTold(t, "In", toldWith(t, "In", inOf(s, id), labels, tellLink), nil)
			}
		}
		for _, kind := range a.kinds {
			for _, labels := range a.labels {
				wantTold(t, "All", toldWith(t, "All", allOf(s, kind), labels, value.Text), nil)
			}
			for _, x := range a.values {
				wantTold(t, "Find", found(t, s, kind, "age", x), nil)
			}
		}
		if l, err := countsOf(t, s); err != api.ErrMade {
			t.Errorf("store %d: Counts: %v, %d", i, l, err)
		}
	}
}
