package wal

import (
	"math"
	"strings"
	"testing"

	"ramble/api"
	"ramble/disk"
)

// P6.1: what Format refuses, with nothing changed: slots, sectors, the note.
func TestFormatRefuses(t *testing.T) {
	note := func(length int) string { return strings.Repeat("n", length) }
	for _, c := range []struct {
		sectors, slots int
		note           string
		e              api.Errno
	}{
		{10, 8, "", api.OK},
		{10, 9, "", api.ErrArg},
		{10, 8, note(64), api.OK},
		{10, 8, note(65), api.ErrArg},
		{10, 8, note(112), api.ErrArg},
		{10, 8, note(1000), api.ErrArg},
		{10, 9, note(65), api.ErrArg},
		{10, 0, "", api.ErrArg},
		{10, -1, "", api.ErrArg},
		{10, -9, "", api.ErrArg},
		{10, math.MinInt, "", api.ErrArg},
		{10, math.MaxInt, "", api.ErrArg},
		{10, math.MaxInt - 1, "", api.ErrArg},
		{10, 1 << 32, "", api.ErrArg},
		{10, 1<<32 + 1, "", api.ErrArg},
		{1, 1, "", api.ErrArg},
		{2, 1, "", api.ErrArg},
		{2, 0, "", api.ErrArg},
		{3, 1, "", api.OK},
		{4, 1, "", api.OK},
		{2 + api.MaxSlots, api.MaxSlots, "", api.OK},
		{1 + api.MaxSlots, api.MaxSlots, "", api.ErrArg},
		{3 + api.MaxSlots, api.MaxSlots + 1, "", api.ErrArg},
		{api.MaxSectors, api.MaxSlots + 1, "", api.ErrArg},
		{api.MaxSectors, api.MaxSlots, note(64), api.OK},
	} {
		d := fresh(t, c.sectors)
		before := look(d)
		l, e := Format(d, c.slots, []byte(c.note))
		want(t, "Format", e, c.e)
		if e == api.OK {
			wantLog(t, "Format", l, c.slots, 0, 1, false)
			wantOpen(t, "Format", d, told{epoch: 1, slots: c.slots, note: c.note, commits: "[]"})
			continue
		}
		if l != nil {
			t.Errorf("Format(%d): a log beside the error", c.slots)
		}
		wantSame(t, "Format", d, before)
	}
}

// P6.1, R1: which error comes first: a disk that no call made, arguments, the power.
func TestFormatErrorsInOrder(t *testing.T) {
	down := fresh(t, 10)
	want(t, "Crash", down.Crash(-1), api.OK)
	for _, c := range []struct {
		what  string
		d     *disk.Disk
		slots int
		note  []byte
		e     api.Errno
	}{
		{"nil", nil, 8, nil, api.ErrMade},
		{"zero", &disk.Disk{}, 8, nil, api.ErrMade},
		{"nil, wrong slots", nil, 0, nil, api.ErrMade},
		{"zero, wrong note", &disk.Disk{}, 8, rec(65, 1), api.ErrMade},
		{"down, wrong slots", down, 0, nil, api.ErrArg},
		{"down, too many slots", down, 9, nil, api.ErrArg},
		{"down, wrong note", down, 8, rec(65, 1), api.ErrArg},
		{"down", down, 8, rec(64, 1), api.ErrDown},
	} {
		if l, e := Format(c.d, c.slots, c.note); l != nil || e != c.e {
			t.Errorf("%s: got %v, %d; want %d", c.what, l, e, c.e)
		}
	}
}

// P6.1: what stands in the sectors behind Format, byte by byte; the slots are left, and there are three calls.
func TestFormatBytes(t *testing.T) {
	for _, slots := range []int{1, 2, 127, 128, 300, api.MaxSlots} {
		for _, note := range []string{"", "n", "\x00", strings.Repeat("\xff", 64)} {
			d := scribbled(t, slots+4)
			other := look(d)
			format(t, d, slots, note)
			wantSectors(t, "heads", d, 0, api.Sector{}, headOf(1, uint64(slots), note))
			for at := 2; at < slots+4; at++ {
				wantSectors(t, "slots", d, at, other.sectors[at].s)
			}
			wantFlushed(t, "Format", d, other.calls+3)
		}
	}
	d := fresh(t, 10)
	format(t, d, 8, "no")
	s, _ := d.Read(1)
	if got := string(s[:14]); got != "\x01\x03\x00\x00\x00\x00\x00\x00\x00\x01\x08no\x00" {
		t.Errorf("a head begins with %q", got)
	}
}

// P6.1, R6: a nil note and an empty one are the same.
func TestFormatWithoutNote(t *testing.T) {
	d, other := fresh(t, 3), fresh(t, 3)
	_, e := Format(d, 1, nil)
	want(t, "Format", e, api.OK)
	_, e = Format(other, 1, []byte{})
	want(t, "Format", e, api.OK)
	wantSame(t, "an empty note", d, look(other))
}

// P6.1: the writes come in the chapter's order, and the disk's error at each of the calls is Format's.
func TestFormatPowerGoes(t *testing.T) {
	for calls, dirty := range [][]int{{}, {0}, {0, 1}} {
		d := scribbled(t, 10)
		want(t, "SetFuse", d.SetFuse(calls+1), api.OK)
		if l, e := Format(d, 8, nil); l != nil || e != api.ErrDown {
			t.Fatalf("the power goes at the call %d: %v, %d", calls+1, l, e)
		}
		got := d.Dirty()
		if len(got) != len(dirty) || len(got) > 0 && got[0] != 0 || len(got) > 1 && got[1] != 1 {
			t.Errorf("the power goes at the call %d: dirty %v", calls+1, got)
		}
	}
	d := scribbled(t, 10)
	want(t, "SetFuse", d.SetFuse(4), api.OK)
	format(t, d, 8, "")
}

// P6.1: Format takes the place of an earlier log, however often that was begun anew, and of torn heads.
func TestFormatOverAnother(t *testing.T) {
	for resets := range 5 {
		d := fresh(t, 20)
		l := format(t, d, 8, "old")
		for range resets {
			want(t, "Reset", l.Reset(), api.OK)
		}
		format(t, d, 5, "new")
		wantOpen(t, "over another", d, told{epoch: 1, slots: 5, note: "new", commits: "[]"})
	}
	for at := range 2 {
		d := fresh(t, 20)
		format(t, d, 8, "old")
		tear(t, d, at)
		format(t, d, 5, "new")
		wantOpen(t, "over a torn one", d, told{epoch: 1, slots: 5, note: "new", commits: "[]"})
	}
}
