package wal

import (
	"bytes"
	"testing"

	"ramble/api"
)

// R3: Format keeps no note, and changes none, nor what lies behind it.
func TestFormatSharesNothing(t *testing.T) {
	d := fresh(t, 10)
	room := rec(100, 1)
	before := bytes.Clone(room)
	l, e := Format(d, 8, room[:20])
	want(t, "Format", e, api.OK)
	if !bytes.Equal(room, before) {
		t.Fatal("Format changed its note, or what lies behind it")
	}
	clear(room)
	want(t, "Reset", l.Reset(), api.OK)
	wantOpen(t, "the note behind Reset", d, told{epoch: 2, slots: 8, note: string(before[:20]), commits: "[]"})
}

// R3: Append and Frames keep no records, and change none, nor what lies behind them or behind their list.
func TestAppendSharesNothing(t *testing.T) {
	d := fresh(t, 10)
	l := format(t, d, 8, "")
	room := rec(400, 1)
	before := bytes.Clone(room)
	all := [][]byte{room[:150], room[150:155], room[200:200], []byte("behind")}
	if Frames(all[:3]...) != 2 {
		t.Fatal("Frames")
	}
	want(t, "Append", l.Append(all[:3]...), api.OK)
	if !bytes.Equal(room, before) || len(all[0]) != 150 || len(all[1]) != 5 || len(all[2]) != 0 || string(all[3]) != "behind" {
		t.Fatal("Append changed its records, or what lies behind them")
	}
	clear(room)
	clear(all)
	wantCommits(t, "what was appended", d, 1, 2, [][]byte{before[:150], before[150:155], nil})
}

// spoil fills all that a list of bytes has room for with other bytes.
func spoil(b []byte) {
	b = b[:cap(b)]
	for i := range b {
		b[i] = '!'
	}
}

// R3: whoever gets what Open answers may change it, and spoils nothing: no other part of the answer, no other answer, no head to come.
func TestOpenSharesNothing(t *testing.T) {
	commits := [][][]byte{list("a", "bc", "", "def"), {rec(250, 1), rec(20, 2)}, list("last")}
	d, l := opened(t, 12, 10, commits...)
	_, other, _, e := Open(d)
	want(t, "Open", e, api.OK)
	m, note, got, e := Open(d)
	want(t, "Open", e, api.OK)
	spoil(note)
	if string(other) != "note" {
		t.Error("two notes are one")
	}
	for i := range got {
		for j := range got[i] {
			if !bytes.Equal(got[i][j], commits[i][j]) {
				t.Fatalf("record %d of commit %d was spoilt: %q", j, i, got[i][j])
			}
			spoil(got[i][j])
		}
		_ = append(got[i], []byte("more"))
		clear(got[i])
	}
	clear(got)
	wantOpen(t, "spoilt", d, told{epoch: 1, slots: 10, used: 5, note: "note", commits: commitsText(commits)})
	want(t, "Reset", m.Reset(), api.OK)
	wantOpen(t, "begun anew", d, told{epoch: 2, slots: 10, note: "note", commits: "[]"})
	want(t, "Reset", l.Reset(), api.OK)
	wantSectors(t, "the other log's head", d, 0, headOf(2, 10, "note"))
}

// R2, R3: logs on disks of their own go their own ways.
func TestLogsApart(t *testing.T) {
	d, other := fresh(t, 10), fresh(t, 10)
	l, m := format(t, d, 8, "one"), format(t, other, 6, "two")
	want(t, "Append", l.Append(list("a")...), api.OK)
	want(t, "Reset", m.Reset(), api.OK)
	want(t, "Crash", other.Crash(-1), api.OK)
	want(t, "Append", m.Append(), api.ErrDown)
	wantLog(t, "one", l, 8, 1, 1, false)
	wantLog(t, "two", m, 6, 0, 2, true)
	want(t, "Append", l.Append(list("b")...), api.OK)
	wantOpen(t, "one", d, told{epoch: 1, slots: 8, used: 2, note: "one", commits: `[["a"] ["b"]]`})
}
