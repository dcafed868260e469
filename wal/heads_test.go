package wal

import (
	"math"
	"strings"
	"testing"

	"ramble/api"
	"ramble/disk"
)

// P6.2: what Open refuses ahead of all heads.
func TestOpenRefuses(t *testing.T) {
	down := fresh(t, 10)
	format(t, down, 8, "")
	want(t, "Crash", down.Crash(-1), api.OK)
	empty := fresh(t, 10)
	want(t, "Crash", empty.Crash(-1), api.OK)
	for _, c := range []struct {
		what string
		d    *disk.Disk
		e    api.Errno
	}{
		{"nil", nil, api.ErrMade},
		{"zero", &disk.Disk{}, api.ErrMade},
		{"down", down, api.ErrDown},
		{"down, no log", empty, api.ErrDown},
		{"zeros", fresh(t, 10), api.ErrLog},
		{"one sector", fresh(t, 1), api.ErrLog},
		{"two sectors", fresh(t, 2), api.ErrLog},
		{"scribbles", scribbled(t, 10), api.ErrLog},
		{"many sectors", fresh(t, api.MaxSectors), api.ErrLog},
	} {
		if got := tell(t, c.d); got != (told{e: c.e}) {
			t.Errorf("%s: got %+v, want %d", c.what, got, c.e)
		}
	}
}

// headCase is a head in one of the sectors 0 and 1 of a disk of 12 sectors, and whether it is right.
type headCase struct {
	what  string
	at    int
	s     api.Sector
	right bool
	slots int
	note  string
}

func headCases() []headCase {
	over := func(n int64, pay ...byte) api.Sector { return written(1, n, pay) }
	damaged := headOf(2, 8, "n")
	damaged[11] ^= 1
	return []headCase{
		{"epoch 1", 1, headOf(1, 8, "n"), true, 8, "n"},
		{"epoch 2", 0, headOf(2, 8, ""), true, 8, ""},
		{"all sectors", 0, headOf(2, 10, "n"), true, 10, "n"},
		{"one slot", 1, headOf(3, 1, "n"), true, 1, "n"},
		{"the last epoch", 0, headOf(lastEpoch, 8, "n"), true, 8, "n"},
		{"the last epoch but one", 1, headOf(lastEpoch-1, 8, "n"), true, 8, "n"},
		{"a note of 64 bytes", 1, headOf(1, 8, strings.Repeat("n", 64)), true, 8, strings.Repeat("n", 64)},
		{"a note that fills the frame", 1, headOf(1, 8, strings.Repeat("n", 111)), true, 8, strings.Repeat("n", 111)},
		{"in the other sector", 0, headOf(1, 8, "n"), false, 0, ""},
		{"in the other sector, even", 1, headOf(2, 8, "n"), false, 0, ""},
		{"the last epoch in the other sector", 1, headOf(lastEpoch, 8, "n"), false, 0, ""},
		{"epoch 0", 0, headOf(0, 8, "n"), false, 0, ""},
		{"epoch 0 in the other sector", 1, headOf(0, 8, "n"), false, 0, ""},
		{"one epoch above the last", 1, headOf(lastEpoch+1, 8, "n"), false, 0, ""},
		{"two epochs above the last", 0, headOf(lastEpoch+2, 8, "n"), false, 0, ""},
		{"the greatest number", 1, headOf(math.MaxInt64, 8, "n"), false, 0, ""},
		{"no slots", 1, headOf(1, 0, "n"), false, 0, ""},
		{"one slot beyond the end", 1, headOf(1, 11, "n"), false, 0, ""},
		{"MaxSlots, beyond the end", 1, headOf(1, api.MaxSlots, "n"), false, 0, ""},
		{"above MaxSlots", 1, headOf(1, api.MaxSlots+1, "n"), false, 0, ""},
		{"2^32 + 8 slots", 1, headOf(1, 1<<32+8, "n"), false, 0, ""},
		{"2^63 slots", 1, headOf(1, 1<<63, "n"), false, 0, ""},
		{"2^64 - 1 slots", 1, headOf(1, math.MaxUint64, "n"), false, 0, ""},
		{"no bytes", 1, over(1), false, 0, ""},
		{"a number that ends too early", 1, over(1, 136), false, 0, ""},
		{"a number in too many bytes", 1, over(1, 136, 0), false, 0, ""},
		{"a number in eleven bytes", 1, over(1, 136, 128, 128, 128, 128, 128, 128, 128, 128, 128, 1), false, 0, ""},
		{"a number above 2^64", 1, over(1, 136, 128, 128, 128, 128, 128, 128, 128, 128, 2), false, 0, ""},
		{"another kind", 1, written(2, 1, []byte{8}), false, 0, ""},
		{"another kind, 3", 0, written(3, 2, []byte{8}), false, 0, ""},
		{"Kind 4", 1, written(4, 1, []byte{8}), false, 0, ""},
		{"a wrong sum", 0, damaged, false, 0, ""},
		{"zeros", 0, api.Sector{}, false, 0, ""},
	}
}

// epochOf is the N of a sector's frame.
func epochOf(s api.Sector) int64 {
	var n int64
	for _, b := range s[2:10] {
		n = n<<8 | int64(b)
	}
	return n
}

// P6.2: heads that stand alone: which are right, and what they say.
func TestOneHead(t *testing.T) {
	for _, c := range headCases() {
		d := scribbled(t, 12)
		lay(t, d, c.at, c.s)
		if c.right {
			wantOpen(t, c.what, d, told{epoch: epochOf(c.s), slots: c.slots, note: c.note, commits: "[]"})
		} else {
			wantOpen(t, c.what, d, told{e: api.ErrLog})
		}
	}
}

// P6.2: of two heads the right one with the greater epoch holds, wherever it stands; one that is not right counts for nothing.
func TestTwoHeads(t *testing.T) {
	for _, a := range headCases() {
		for _, b := range headCases() {
			if a.at != 0 || b.at != 1 {
				continue
			}
			d := scribbled(t, 12)
			lay(t, d, 0, a.s, b.s)
			holds := a
			if !a.right || b.right && epochOf(b.s) > epochOf(a.s) {
				holds = b
			}
			w := told{e: api.ErrLog}
			if holds.right {
				w = told{epoch: epochOf(holds.s), slots: holds.slots, note: holds.note, commits: "[]"}
			}
			wantOpen(t, a.what+" and "+b.what, d, w)
		}
	}
}

// P6.2: a head that is torn is no head.
func TestTornHeads(t *testing.T) {
	d := fresh(t, 12)
	l := format(t, d, 8, "n")
	want(t, "Reset", l.Reset(), api.OK)
	wantOpen(t, "whole", d, told{epoch: 2, slots: 8, note: "n", commits: "[]"})
	other := d.Clone()
	tear(t, d, 0)
	wantOpen(t, "the newer one torn", d, told{epoch: 1, slots: 8, note: "n", commits: "[]"})
	tear(t, other, 1)
	wantOpen(t, "the older one torn", other, told{epoch: 2, slots: 8, note: "n", commits: "[]"})
	tear(t, d, 1)
	wantOpen(t, "both torn", d, told{e: api.ErrLog})
}

// P6.2: the greatest number of slots there may be, on disks of just as many sectors, one more and one less.
func TestMostSlots(t *testing.T) {
	for _, sectors := range []int{api.MaxSlots + 1, api.MaxSlots + 2, api.MaxSlots + 3, api.MaxSectors} {
		for _, slots := range []uint64{api.MaxSlots, api.MaxSlots + 1} {
			d := fresh(t, sectors)
			lay(t, d, 1, headOf(1, slots, ""))
			w := told{epoch: 1, slots: int(slots), commits: "[]"}
			if slots > api.MaxSlots || sectors < api.MaxSlots+2 {
				w = told{e: api.ErrLog}
			}
			if got := tell(t, d); got != w {
				t.Errorf("%d slots, %d sectors: got %+v, want %+v", slots, sectors, got, w)
			}
		}
	}
}

// P6.2: a head that was written and not flushed is read as all else is.
func TestDirtyHead(t *testing.T) {
	d := fresh(t, 12)
	want(t, "Write", d.Write(1, headOf(1, 8, "n")), api.OK)
	wantOpen(t, "dirty", d, told{epoch: 1, slots: 8, note: "n", commits: "[]"})
}
