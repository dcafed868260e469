package wal

import (
	"strings"
	"testing"

	"ramble/api"
)

// P6.3: Reset writes the head of the next epoch to the other sector, with slots and note, and nothing else; it takes two calls.
func TestResetBytes(t *testing.T) {
	for _, note := range []string{"", "note", strings.Repeat("n", 64)} {
		d := scribbled(t, 200)
		l := format(t, d, 150, note)
		want(t, "Append", l.Append(rec(150, 1)), api.OK)
		for epoch := int64(2); epoch < 7; epoch++ {
			before := look(d)
			want(t, "Reset", l.Reset(), api.OK)
			wantLog(t, "Reset", l, 150, 0, epoch, false)
			wantFlushed(t, "Reset", d, before.calls+2)
			before.sectors[epoch%2].s = headOf(epoch, 150, note)
			before.calls += 2
			wantSame(t, "Reset, all else", d, before)
			wantOpen(t, "Reset", d, told{epoch: epoch, slots: 150, note: note, commits: "[]"})
		}
	}
}

// P6.2, P6.3: Reset of a log that was opened has the note and the slots that its head has.
func TestResetOfOpened(t *testing.T) {
	for _, note := range []string{"", "x", strings.Repeat("n", 64), strings.Repeat("n", 111)} {
		d := scribbled(t, 12)
		lay(t, d, 0, headOf(6, 9, note))
		l := open(t, d)
		want(t, "Reset", l.Reset(), api.OK)
		wantLog(t, "Reset", l, 9, 0, 7, false)
		wantSectors(t, "heads", d, 0, headOf(6, 9, note), headOf(7, 9, note))
		want(t, "Reset", l.Reset(), api.OK)
		wantSectors(t, "heads", d, 0, headOf(8, 9, note), headOf(7, 9, note))
		want(t, "Append", l.Append(list("a")...), api.OK)
		wantOpen(t, "begun anew", d, told{epoch: 8, slots: 9, used: 1, note: note, commits: `[["a"]]`})
	}
}

// P6.3: behind the last epoch there is none; the log is not broken by that, and a commit is taken in the last one.
func TestLastEpoch(t *testing.T) {
	d := fresh(t, 12)
	lay(t, d, 1, headOf(lastEpoch-1, 8, "n"))
	l := open(t, d)
	wantLog(t, "the last but one", l, 8, 0, lastEpoch-1, false)
	want(t, "Reset", l.Reset(), api.OK)
	wantLog(t, "the last", l, 8, 0, lastEpoch, false)
	wantSectors(t, "the last", d, 0, headOf(lastEpoch, 8, "n"))
	want(t, "Append", l.Append(list("a")...), api.OK)
	wantSectors(t, "the last", d, 2, inSlot(3, lastEpoch, 0, laid(list("a")...)))
	before := look(d)
	want(t, "Reset", l.Reset(), api.ErrFull)
	wantLog(t, "refused", l, 8, 1, lastEpoch, false)
	wantSame(t, "refused", d, before)
	want(t, "Append", l.Append(rec(150, 1)), api.OK)
	wantCommits(t, "the last", d, lastEpoch, 3, list("a"), [][]byte{rec(150, 1)})
	m := open(t, d)
	want(t, "Reset", m.Reset(), api.ErrFull)
	want(t, "Append", m.Append(), api.ErrStale)
	want(t, "Crash", d.Crash(-1), api.OK)
	want(t, "down, the last epoch", l.Reset(), api.ErrFull)
	wantLog(t, "down, the last epoch", l, 8, 3, lastEpoch, false)
}

// P6.3: at whichever call of a Reset the power goes, the log is broken, in the epoch that it was in.
func TestResetPowerGoes(t *testing.T) {
	for _, stale := range []bool{false, true} {
		for fuse := 1; fuse <= 2; fuse++ {
			d := fresh(t, 10)
			l := format(t, d, 8, "")
			want(t, "Append", l.Append(list("a")...), api.OK)
			if stale {
				l = open(t, d)
			}
			want(t, "SetFuse", d.SetFuse(fuse), api.OK)
			want(t, "Reset", l.Reset(), api.ErrDown)
			if dirty := d.Dirty(); len(dirty) != fuse-1 || len(dirty) > 0 && dirty[0] != 0 {
				t.Fatalf("the power went at the call %d: dirty %v", fuse, dirty)
			}
			wantBroken(t, "down", l, 8, 1, 1)
			want(t, "Start", d.Start(-1, true), api.OK)
			before := look(d)
			wantBroken(t, "up again", l, 8, 1, 1)
			wantSame(t, "up again", d, before)
		}
	}
	d := fresh(t, 10)
	l := format(t, d, 8, "")
	want(t, "Crash", d.Crash(-1), api.OK)
	want(t, "Reset while the power is away", l.Reset(), api.ErrDown)
	wantBroken(t, "down", l, 8, 0, 1)
}

// P6.5: what stood in slots ahead of a Reset is no commit of the next epoch, nor part of one, also where all slots were full.
func TestOldIsGone(t *testing.T) {
	olds := [][][][]byte{
		{list("a"), list("b"), list("c"), list("d"), list("e"), list("f")},
		{{rec(600, 1)}},
		{{rec(200, 1)}, {rec(200, 2)}, {rec(200, 3)}},
		{nil, {rec(400, 1)}, nil},
	}
	news := [][][]byte{nil, list("n"), {rec(150, 9)}, {rec(250, 9)}, {rec(600, 9)}}
	for _, old := range olds {
		for _, fresher := range news {
			d := fresh(t, 8)
			l := format(t, d, 6, "")
			for _, c := range old {
				want(t, "Append", l.Append(c...), api.OK)
			}
			wantLog(t, "full", l, 6, 6, 1, false)
			wantCommits(t, "full", d, 1, 6, old...)
			for epoch := int64(2); epoch < 5; epoch++ {
				want(t, "Reset", l.Reset(), api.OK)
				wantCommits(t, "begun anew", d, epoch, 0)
				want(t, "Append", l.Append(fresher...), api.OK)
				wantCommits(t, "one commit", d, epoch, Frames(fresher...), fresher)
			}
		}
	}
}

// P6.5: a commit of which but the first frames were kept is not made whole by the old one's.
func TestOldFramesMakeNothingWhole(t *testing.T) {
	for kept := range 3 {
		d := fresh(t, 8)
		l := format(t, d, 6, "")
		want(t, "Append", l.Append(rec(300, 1)), api.OK)
		want(t, "Reset", l.Reset(), api.OK)
		want(t, "SetFuse", d.SetFuse(4), api.OK)
		want(t, "Append", l.Append(rec(300, 1)), api.ErrDown)
		keep := make([]bool, 3)
		for i := range kept {
			keep[i] = true
		}
		want(t, "Start", d.Start(-1, keep...), api.OK)
		wantCommits(t, "the first frames alone", d, 2, 0)
	}
}
