package pager

import (
	"testing"

	"ramble/api"
	"ramble/disk"
)

// R5, P7.2, P7.4: a pager that no call made answers ErrMade, zero and false, and does not panic.
func TestNotMade(t *testing.T) {
	none, _ := Open(nil, 8)
	refused, _ := Open(fresh(t, 20), 8)
	for _, p := range []*Pager{nil, {}, new(Pager), none, refused} {
		if page, e := p.Alloc(); page != 0 || e != api.ErrMade {
			t.Errorf("Alloc: %d, %d", page, e)
		}
		for _, page := range []int{-1, 0, 1, 5000} {
			wantGet(t, p, page, "", api.ErrMade)
			wantWord(t, p, page, 0, api.ErrMade)
			want(t, "Free", p.Free(page), api.ErrMade)
			want(t, "Set", p.Set(page, nil), api.ErrMade)
			want(t, "Set", p.Set(page, some(500, 1)), api.ErrMade)
			want(t, "SetWord", p.SetWord(page, 1), api.ErrMade)
		}
		want(t, "Commit", p.Commit(), api.ErrMade)
		want(t, "Abort", p.Abort(), api.ErrMade)
		want(t, "Checkpoint", p.Checkpoint(), api.ErrMade)
		wantCounts(t, "not made", p, 0, 0, 0, false)
		if p.Held() != 0 || p.Pool() != 0 {
			t.Errorf("%d held, a pool of %d", p.Held(), p.Pool())
		}
	}
	if p, e := Open(new(disk.Disk), 8); p != nil || e != api.ErrMade {
		t.Errorf("Open: %d", e)
	}
}
