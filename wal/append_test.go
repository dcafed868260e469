package wal

import (
	"testing"

	"ramble/api"
)

// P6.3: the chapter's example, byte by byte.
func TestAppendExample(t *testing.T) {
	d := fresh(t, 10)
	l := format(t, d, 8, "")
	want(t, "Append", l.Append([]byte("a"), []byte("bc")), api.OK)
	wantLog(t, "one commit", l, 8, 1, 1, false)
	wantSectors(t, "slot 0", d, 2, written(3, 65536, []byte{2, 1, 97, 2, 98, 99}))
	s, _ := d.Read(2)
	if got := string(s[:17]); got != "\x03\x06\x00\x00\x00\x00\x00\x01\x00\x00\x02\x01a\x02bc\x00" {
		t.Errorf("slot 0 begins with %q", got)
	}
}

// P6.3: what stands in the slots behind commits, byte by byte; the heads and all behind are left, and each frame is one call, the flush another.
func TestAppendBytes(t *testing.T) {
	d := scribbled(t, 20)
	l := format(t, d, 15, "n")
	before := look(d)
	calls, used := before.calls, 0
	for _, records := range [][][]byte{nil, {nil}, {rec(110, 1)}, {rec(111, 2)}, {rec(130, 3), nil, rec(300, 4)}, list("x", "y")} {
		want(t, "Append", l.Append(records...), api.OK)
		frames := framed(1, used, laid(records...))
		wantSectors(t, "the commit", d, 2+used, frames...)
		calls += int64(len(frames)) + 1
		wantFlushed(t, "Append", d, calls)
		used += len(frames)
		wantLog(t, "Append", l, 15, used, 1, false)
	}
	for _, at := range []int{0, 1, 2 + used, 17, 18, 19} {
		wantSectors(t, "what is left", d, at, before.sectors[at].s)
	}
	want(t, "Reset", l.Reset(), api.OK)
	want(t, "Append", l.Append(list("z")...), api.OK)
	wantSectors(t, "the next epoch", d, 2, inSlot(3, 2, 0, laid(list("z")...)))
}

// P6.3: a commit is refused if it has not the room, with nothing changed, and taken if it has just that.
func TestAppendRoom(t *testing.T) {
	for slots := 1; slots <= 6; slots++ {
		for ahead := 0; ahead < slots; ahead++ {
			d := fresh(t, 10)
			l := format(t, d, slots, "")
			for range ahead {
				want(t, "Append", l.Append(), api.OK)
			}
			before := look(d)
			room := (slots-ahead)*112 - 2
			if room > 127 {
				room--
			}
			want(t, "one byte too many", l.Append(rec(room+1, 1)), api.ErrFull)
			want(t, "far too many", l.Append(rec(5000, 1)), api.ErrFull)
			wantLog(t, "refused", l, slots, ahead, 1, false)
			wantSame(t, "refused", d, before)
			want(t, "just as many", l.Append(rec(room, 1)), api.OK)
			wantLog(t, "full", l, slots, slots, 1, false)
			before = look(d)
			want(t, "no room", l.Append(), api.ErrFull)
			want(t, "no room", l.Append(nil), api.ErrFull)
			wantLog(t, "full", l, slots, slots, 1, false)
			wantSame(t, "full", d, before)
		}
	}
}

// P6.2, P6.3: what was opened takes no commit until Reset, whether it has room or not.
func TestAppendStale(t *testing.T) {
	d, l := opened(t, 10, 4, list("a"), list("b"))
	before := look(d)
	for _, records := range [][][]byte{nil, list("c"), {rec(2000, 1)}} {
		want(t, "Append", l.Append(records...), api.ErrStale)
	}
	wantLog(t, "opened", l, 4, 2, 1, false)
	wantSame(t, "opened", d, before)
	want(t, "Reset", l.Reset(), api.OK)
	wantLog(t, "begun anew", l, 4, 0, 2, false)
	want(t, "Append", l.Append(list("c")...), api.OK)
	wantCommits(t, "begun anew", d, 2, 1, list("c"))
	full, m := opened(t, 10, 1, list("a"))
	want(t, "full and stale", m.Append(), api.ErrStale)
	want(t, "Crash", full.Crash(-1), api.OK)
	want(t, "down and stale", m.Append(), api.ErrStale)
	wantLog(t, "down and stale", m, 1, 1, 1, false)
}

// wantBroken holds that a log takes nothing any more, and touches the disk no more.
func wantBroken(t *testing.T, what string, l *Log, slots, used int, epoch int64) {
	t.Helper()
	wantLog(t, what, l, slots, used, epoch, true)
	want(t, what+": Append", l.Append(), api.ErrBroken)
	want(t, what+": Append of much", l.Append(rec(9000, 1)), api.ErrBroken)
	want(t, what+": Reset", l.Reset(), api.ErrBroken)
	wantLog(t, what, l, slots, used, epoch, true)
}

// P6.3: at whichever call of an Append the power goes, the log is broken from then on, also when the power is back.
func TestAppendPowerGoes(t *testing.T) {
	for fuse := 1; fuse <= 4; fuse++ {
		d := fresh(t, 10)
		l := format(t, d, 8, "")
		want(t, "Append", l.Append(list("a")...), api.OK)
		want(t, "SetFuse", d.SetFuse(fuse), api.OK)
		want(t, "Append", l.Append(rec(300, 1)), api.ErrDown)
		dirty := d.Dirty()
		if len(dirty) != fuse-1 || len(dirty) > 0 && (dirty[0] != 3 || dirty[len(dirty)-1] != 1+fuse) {
			t.Fatalf("the power went at the call %d: dirty %v", fuse, dirty)
		}
		wantBroken(t, "down", l, 8, 1, 1)
		want(t, "Start", d.Start(-1, true), api.OK)
		before := look(d)
		wantBroken(t, "up again", l, 8, 1, 1)
		wantSame(t, "up again", d, before)
	}
	d := fresh(t, 10)
	l := format(t, d, 8, "")
	want(t, "SetFuse", d.SetFuse(5), api.OK)
	want(t, "Append", l.Append(rec(300, 1)), api.OK)
}

// P6.3, R1: while the power is away a commit without room is refused for that, and the log is not broken by it.
func TestAppendErrorsInOrder(t *testing.T) {
	d := fresh(t, 10)
	l := format(t, d, 2, "")
	want(t, "Crash", d.Crash(-1), api.OK)
	want(t, "no room", l.Append(rec(300, 1)), api.ErrFull)
	wantLog(t, "no room", l, 2, 0, 1, false)
	want(t, "room", l.Append(rec(150, 1)), api.ErrDown)
	wantBroken(t, "down", l, 2, 0, 1)
}

// P6.3, P6.4: a crash between two calls breaks nothing: what was appended is flushed, and the log goes on.
func TestCrashBetweenCalls(t *testing.T) {
	d := fresh(t, 10)
	l := format(t, d, 8, "")
	for i, c := range [][][]byte{list("a"), {rec(150, 1)}, nil} {
		want(t, "Append", l.Append(c...), api.OK)
		want(t, "Crash", d.Crash(0, i == 1), api.OK)
		want(t, "Start", d.Start(0, true), api.OK)
	}
	wantLog(t, "crashes", l, 8, 4, 1, false)
	wantCommits(t, "crashes", d, 1, 4, list("a"), [][]byte{rec(150, 1)}, nil)
	want(t, "Reset", l.Reset(), api.OK)
	want(t, "Crash", d.Crash(0), api.OK)
	want(t, "Start", d.Start(0), api.OK)
	wantCommits(t, "begun anew", d, 2, 0)
}
