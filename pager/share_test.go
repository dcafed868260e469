package pager

import (
	"bytes"
	"testing"

	"ramble/api"
)

// spoil fills all that a list of bytes has room for with other bytes.
func spoil(b []byte) {
	b = b[:cap(b)]
	for i := range b {
		b[i] = '!'
	}
}

// R3: Set keeps nothing of what it is handed, and changes nothing of it, nor what lies behind it.
func TestSetSharesNothing(t *testing.T) {
	d, p := filled(t, 20, 4, "a")
	room := some(300, 1)
	before := bytes.Clone(room)
	set(t, p, 1, room[:200])
	want(t, "Commit", p.Commit(), api.OK)
	set(t, p, 1, room[100:120])
	if !bytes.Equal(room, before) {
		t.Fatal("Set changed its bytes, or what lies behind them")
	}
	clear(room)
	wantGet(t, p, 1, string(before[100:120]), api.OK)
	want(t, "Abort", p.Abort(), api.OK)
	wantGet(t, p, 1, string(before[:200]), api.OK)
	wantReopened(t, "committed", d, texts(string(before[:200])))
}

// R3: whoever gets what Get answers may change it: staged, kept, read from the log, read from the sectors.
func TestGetSharesNothing(t *testing.T) {
	w := string(some(200, 1))
	d, p := filled(t, 20, 4, "x")
	spoils := func(what string, p *Pager) {
		t.Helper()
		b, e := p.Get(1)
		want(t, what, e, api.OK)
		other, e := p.Get(1)
		want(t, what, e, api.OK)
		spoil(b)
		if string(other) != w {
			t.Fatalf("%s: two answers are one", what)
		}
		spoil(other)
		wantGet(t, p, 1, w, api.OK)
	}
	set(t, p, 1, []byte(w))
	spoils("staged", p)
	want(t, "Commit", p.Commit(), api.OK)
	spoils("kept", p)
	set(t, p, 1, nil)
	want(t, "Abort", p.Abort(), api.OK)
	spoils("read from the log", p)
	want(t, "Checkpoint", p.Checkpoint(), api.OK)
	spoils("kept", p)
	spoils("read from the sectors", open(t, d, 8))
	wantReopened(t, "spoilt", d, texts(w))
}

// R3: pagers on disks of their own go their own ways; what one has is not the other's.
func TestPagersApart(t *testing.T) {
	d, p := filled(t, 20, 4, "a")
	other := d.Clone()
	q := open(t, other, 8)
	set(t, p, 1, []byte("A"))
	alloc(t, q, 2)
	want(t, "Commit", q.Commit(), api.OK)
	want(t, "Crash", other.Crash(-1), api.OK)
	want(t, "Checkpoint", q.Checkpoint(), api.ErrDown)
	wantCounts(t, "one", p, 4, 2, 1, false)
	want(t, "Commit", p.Commit(), api.OK)
	wantReopened(t, "one", d, texts("A"))
	want(t, "Start", other.Start(-1), api.OK)
	wantReopened(t, "the other", other, texts("a", ""))
}
