package wal

import (
	"bytes"
	"encoding/binary"
	"fmt"
	"math/rand"
	"testing"

	"ramble/api"
	"ramble/disk"
)

// frameIn is the frame of a sector by the library's means: what s says, written again, must be s.
func frameIn(d *disk.Disk, at int) (api.Frame, bool) {
	s, e := d.Read(at)
	if e != api.OK || s[0] == 0 || s[1] > 112 || s[2] > 127 {
		return api.Frame{}, false
	}
	f := api.Frame{Kind: int(s[0]), N: epochOf(s), Pay: s[10 : 10+int(s[1])]}
	return f, written(s[0], f.N, f.Pay) == s
}

// recordsIn goes the other way round than a strict reader: it takes what it can, and lays that out again to see whether it is the same.
func recordsIn(b []byte) ([][]byte, bool) {
	count, n := binary.Uvarint(b)
	if n <= 0 || count > uint64(len(b)) {
		return nil, false
	}
	rest := b[n:]
	var records [][]byte
	for range count {
		length, n := binary.Uvarint(rest)
		if n <= 0 || length > uint64(len(rest)-n) {
			return nil, false
		}
		records = append(records, rest[n:n+int(length)])
		rest = rest[n+int(length):]
	}
	return records, bytes.Equal(laid(records...), b)
}

// holding is the N and the Pay of the head that holds, by the chapter's words.
func holding(d *disk.Disk) (epoch int64, slots int, note string) {
	for at := range 2 {
		f, is := frameIn(d, at)
		count, n := binary.Uvarint(f.Pay)
		switch {
		case !is, f.Kind != 1, f.N < 1, f.N > lastEpoch, f.N%2 != int64(at), f.N < epoch:
		case n <= 0, count < 1, count > api.MaxSlots, 2+int(count) > d.Sectors():
		case !bytes.Equal(binary.AppendUvarint(nil, count), f.Pay[:n]):
		default:
			epoch, slots, note = f.N, int(count), string(f.Pay[n:])
		}
	}
	return
}

// shouldTell is what Open should tell of a disk whose power is there: the frames that fit are found first, then their commits.
func shouldTell(d *disk.Disk) told {
	epoch, slots, note := holding(d)
	if epoch == 0 {
		return told{e: api.ErrLog}
	}
	var fit []api.Frame
	for slot := range slots {
		f, is := frameIn(d, 2+slot)
		if !is || f.N != epoch<<16+int64(slot) || f.Kind != 2 && f.Kind != 3 {
			break
		}
		fit = append(fit, f)
	}
	w := told{epoch: epoch, slots: slots, note: note}
	var commits [][][]byte
	var b []byte
	for i, f := range fit {
		b = append(b, f.Pay...)
		if f.Kind == 2 {
			continue
		}
		records, are := recordsIn(b)
		if !are {
			break
		}
		commits, b, w.used = append(commits, records), nil, i+1
	}
	w.commits = commitsText(commits)
	return w
}

// wantByRule holds what Open tells against the model.
func wantByRule(t *testing.T, what string, d *disk.Disk) told {
	t.Helper()
	w := shouldTell(d)
	wantOpen(t, what, d, w)
	return w
}

// someRecords is a few records of few bytes, seldom of many.
func someRecords(r *rand.Rand) [][]byte {
	l := make([][]byte, r.Intn(4))
	for i := range l {
		l[i] = rec(r.Intn(1<<r.Intn(9)), byte(r.Intn(256)))
	}
	return l
}

// seldom is -1 or 1 now and then, else 0.
func seldom(r *rand.Rand) int {
	if r.Intn(12) > 0 {
		return 0
	}
	return 1 - 2*r.Intn(2)
}

// someSectors is what is nearly a commit of that epoch at that place, now and then something else that a log has, or nothing.
func someSectors(r *rand.Rand, epoch int64, at int) []api.Sector {
	near := max(0, epoch+int64(seldom(r)))
	slot := max(0, at-2+seldom(r))
	b := laid(someRecords(r)...)
	if r.Intn(12) == 0 {
		b[r.Intn(len(b))] ^= 1 << r.Intn(8)
	}
	switch r.Intn(20) {
	case 0:
		return []api.Sector{headOf(near, uint64(r.Intn(14)), string(rec(r.Intn(65), 1)))}
	case 1:
		return []api.Sector{{}}
	case 2:
		return []api.Sector{written(byte(r.Intn(6)), r.Int63(), b[:min(len(b), 112)])}
	case 3:
		return []api.Sector{inSlot(2, near, slot, b[:min(len(b), 112)])}
	case 4:
		return framed(near, slot, b)[:1]
	}
	return framed(near, slot, b)
}

// P6.2, P6: whatever stands in the sectors, Open tells what the chapter says, by a model that goes another way.
func TestAnySectors(t *testing.T) {
	r := rand.New(rand.NewSource(3))
	var found [4]int
	for range 6000 {
		sectors := 1 + r.Intn(12)
		d := fresh(t, sectors)
		epoch := int64(1 + r.Intn(5))
		if r.Intn(5) == 0 {
			epoch = lastEpoch - int64(r.Intn(3))
		}
		for at := 0; at < sectors; {
			l := someSectors(r, epoch, at)
			lay(t, d, at, l[:min(len(l), sectors-at)]...)
			at += len(l)
		}
		if sectors > 2 && r.Intn(4) > 0 {
			lay(t, d, int(epoch%2), headOf(epoch, uint64(sectors-2), "n"))
		}
		if r.Intn(4) == 0 {
			tear(t, d, r.Intn(sectors))
		}
		found[min(3, wantByRule(t, "any sectors", d).used)]++
	}
	for used, count := range found {
		if count < 200 {
			t.Errorf("only %d disks had so many slots used: %d", count, used)
		}
	}
}

// P6.2, P6: the bytes of all sectors at random: Open ends, and is no log.
func TestAnyBytes(t *testing.T) {
	r := rand.New(rand.NewSource(4))
	for range 300 {
		d := fresh(t, 1+r.Intn(9))
		for at := range d.Sectors() {
			var s api.Sector
			r.Read(s[:])
			lay(t, d, at, s)
		}
		wantOpen(t, "any bytes", d, told{e: api.ErrLog})
	}
}

// P6.2: one bit of a log's sectors turned, at each place of each sector: its frame is none, and all else is as the chapter says.
func TestOneBitTurned(t *testing.T) {
	d := fresh(t, 6)
	l := format(t, d, 4, "n")
	want(t, "Reset", l.Reset(), api.OK)
	want(t, "Append", l.Append(list("a")...), api.OK)
	want(t, "Append", l.Append(rec(150, 1)), api.OK)
	both := commitsText([][][]byte{list("a"), {rec(150, 1)}})
	whole := told{epoch: 2, slots: 4, used: 3, note: "n", commits: both}
	wantOpen(t, "whole", d, whole)
	first := told{epoch: 2, slots: 4, used: 1, note: "n", commits: `[["a"]]`}
	turned := []told{
		{epoch: 1, slots: 4, note: "n", commits: "[]"},
		whole,
		{epoch: 2, slots: 4, note: "n", commits: "[]"},
		first, first, whole,
	}
	for at, w := range turned {
		for bit := range 8 * api.SectorLen {
			want(t, "Burst", d.Burst(at, bit, 1), api.OK)
			if got := tell(t, d); got != w {
				t.Fatalf("sector %d, bit %d: got %+v, want %+v", at, bit, got, w)
			}
			want(t, "Burst", d.Burst(at, bit, 1), api.OK)
		}
	}
}

// P6.1 to P6.5, R4: long ways of a log, held against the model, with crashes of any kind; the same calls again tell the same.
func TestLongWays(t *testing.T) {
	run := func(seed int64) string {
		r := rand.New(rand.NewSource(seed))
		d := fresh(t, 12)
		l := format(t, d, 9, "note")
		way := ""
		for step := range 120 {
			if r.Intn(3) == 0 {
				d.SetFuse(r.Intn(6))
			}
			if r.Intn(4) == 0 {
				l.Reset()
			} else {
				l.Append(someRecords(r)...)
			}
			if d.Down() {
				keep := make([]bool, 1+r.Intn(5))
				for i := range keep {
					keep[i] = r.Intn(3) > 0
				}
				want(t, "Start", d.Start(r.Intn(4)-1, keep...), api.OK)
			}
			w := wantByRule(t, fmt.Sprintf("seed %d, step %d", seed, step), d)
			if l.Broken() || r.Intn(10) == 0 {
				l = open(t, d)
			}
			way += fmt.Sprintln(w, l.Used(), l.Epoch())
		}
		return way
	}
	for seed := range int64(30) {
		if run(seed) != run(seed) {
			t.Errorf("seed %d: not the same again", seed)
		}
	}
}
