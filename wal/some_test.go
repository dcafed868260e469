package wal

import (
	"bytes"
	"encoding/binary"
	"fmt"
	"hash/crc32"
	"reflect"
	"testing"

	"ramble/api"
	"ramble/disk"
)

const lastEpoch = int64(1) << 40

// rec is so many bytes, none of them 0, that differ by seed.
func rec(length int, seed byte) []byte {
	b := make([]byte, length)
	for i := range b {
		b[i] = byte(i)*31 + seed | 1
	}
	return b
}

// laid is the bytes of a commit as the chapter tells them, reckoned by the library's means.
func laid(records ...[]byte) []byte {
	b := binary.AppendUvarint(nil, uint64(len(records)))
	for _, r := range records {
		b = append(binary.AppendUvarint(b, uint64(len(r))), r...)
	}
	return b
}

// written is a sector as chapter 5 writes a frame, reckoned by the library's means.
func written(kind byte, n int64, pay []byte) api.Sector {
	s := api.Sector{kind, byte(len(pay))}
	binary.BigEndian.PutUint64(s[2:10], uint64(n))
	copy(s[10:122], pay)
	binary.LittleEndian.PutUint32(s[124:], crc32.ChecksumIEEE(s[:124]))
	return s
}

// headOf is a sector with a head.
func headOf(epoch int64, slots uint64, note string) api.Sector {
	return written(1, epoch, append(binary.AppendUvarint(nil, slots), note...))
}

// inSlot is a sector with a frame for a slot of an epoch.
func inSlot(kind byte, epoch int64, slot int, pay []byte) api.Sector {
	return written(kind, epoch*65536+int64(slot), pay)
}

// framed is the sectors of a commit with these bytes, from a slot on, cut as chapter 5 cuts.
func framed(epoch int64, slot int, b []byte) []api.Sector {
	var l []api.Sector
	for ; len(b) > 112; b = b[112:] {
		l = append(l, inSlot(2, epoch, slot+len(l), b[:112]))
	}
	return append(l, inSlot(3, epoch, slot+len(l), b))
}

// fresh is a disk of so many sectors of zeros.
func fresh(t *testing.T, sectors int) *disk.Disk {
	t.Helper()
	d, e := disk.New(sectors)
	want(t, "New", e, api.OK)
	return d
}

// scribbled is a disk of so many sectors in which nothing is of zeros, nor a frame.
func scribbled(t *testing.T, sectors int) *disk.Disk {
	t.Helper()
	d := fresh(t, sectors)
	for at := range sectors {
		lay(t, d, at, api.Sector(rec(api.SectorLen, byte(at))))
	}
	return d
}

// lay writes sectors, one behind the other, and flushes them.
func lay(t *testing.T, d *disk.Disk, at int, l ...api.Sector) {
	t.Helper()
	for i, s := range l {
		want(t, "Write", d.Write(at+i, s), api.OK)
	}
	want(t, "Flush", d.Flush(), api.OK)
}

// tear makes a sector of d torn.
func tear(t *testing.T, d *disk.Disk, at int) {
	t.Helper()
	want(t, "Write", d.Write(at, api.Sector{}), api.OK)
	want(t, "Crash", d.Crash(0, true), api.OK)
	want(t, "Start", d.Start(-1), api.OK)
}

// format is Format of a log that may be.
func format(t *testing.T, d *disk.Disk, slots int, note string) *Log {
	t.Helper()
	l, e := Format(d, slots, []byte(note))
	want(t, "Format", e, api.OK)
	return l
}

// open is Open of a log that is there.
func open(t *testing.T, d *disk.Disk) *Log {
	t.Helper()
	l, _, _, e := Open(d)
	want(t, "Open", e, api.OK)
	return l
}

// opened is a log that Open has opened behind Format and some commits.
func opened(t *testing.T, sectors, slots int, commits ...[][]byte) (*disk.Disk, *Log) {
	t.Helper()
	d := fresh(t, sectors)
	l := format(t, d, slots, "note")
	for _, records := range commits {
		want(t, "Append", l.Append(records...), api.OK)
	}
	return d, open(t, d)
}

func want(t *testing.T, what string, got, e api.Errno) {
	t.Helper()
	if got != e {
		t.Fatalf("%s: got %d, want %d", what, got, e)
	}
}

// wantLog holds what a log tells of itself against what it should.
func wantLog(t *testing.T, what string, l *Log, slots, used int, epoch int64, broken bool) {
	t.Helper()
	if l.Slots() != slots || l.Used() != used || l.Epoch() != epoch || l.Broken() != broken {
		t.Fatalf("%s: slots %d, used %d, epoch %d, broken %v; want %d, %d, %d, %v",
			what, l.Slots(), l.Used(), l.Epoch(), l.Broken(), slots, used, epoch, broken)
	}
}

// answer is what Read answers of one sector.
type answer struct {
	s api.Sector
	e api.Errno
}

// image is all that can be found out about a disk whose power is there, but the fuse.
type image struct {
	sectors []answer
	dirty   []int
	calls   int64
}

func look(d *disk.Disk) image {
	m := image{calls: d.Calls(), dirty: append([]int{}, d.Dirty()...)}
	for at := range d.Sectors() {
		s, e := d.Read(at)
		m.sectors = append(m.sectors, answer{s, e})
	}
	return m
}

// wantSame holds that a disk is as it was.
func wantSame(t *testing.T, what string, d *disk.Disk, before image) {
	t.Helper()
	if !reflect.DeepEqual(look(d), before) {
		t.Fatalf("%s: the disk has changed", what)
	}
}

// wantSectors holds the sectors of a disk from at on, byte by byte, against those that should stand there.
func wantSectors(t *testing.T, what string, d *disk.Disk, at int, l ...api.Sector) {
	t.Helper()
	for i, s := range l {
		if got, e := d.Read(at + i); e != api.OK || got != s {
			t.Fatalf("%s, sector %d: got %v, %d; want %v", what, at+i, got, e, s)
		}
	}
}

// wantFlushed holds how many calls of the disk there were, and that nothing is dirty.
func wantFlushed(t *testing.T, what string, d *disk.Disk, calls int64) {
	t.Helper()
	if d.Calls() != calls || len(d.Dirty()) > 0 {
		t.Fatalf("%s: %d calls, dirty %v; want %d calls", what, d.Calls(), d.Dirty(), calls)
	}
}

// told is what Open answers, as texts: nil and empty lists are the same.
type told struct {
	e           api.Errno
	epoch       int64
	slots, used int
	note        string
	commits     string
}

func commitsText(commits [][][]byte) string { return fmt.Sprintf("%q", commits) }

// tell is what Open answers of d.
func tell(t *testing.T, d *disk.Disk) told {
	t.Helper()
	l, note, commits, e := Open(d)
	if e != api.OK {
		if l != nil || note != nil || commits != nil {
			t.Fatalf("Open: %d, and beside it %v, %v, %v", e, l, note, commits)
		}
		return told{e: e}
	}
	if l.Broken() {
		t.Fatal("Open: a broken log")
	}
	return told{e, l.Epoch(), l.Slots(), l.Used(), string(note), commitsText(commits)}
}

// wantOpen holds what Open tells, and tells again, against what it should; it may change nothing.
func wantOpen(t *testing.T, what string, d *disk.Disk, w told) {
	t.Helper()
	before := look(d)
	for range 2 {
		if got := tell(t, d); got != w {
			t.Fatalf("%s: Open tells %+v; want %+v", what, got, w)
		}
		wantSame(t, what, d, before)
	}
}

// wantCommits holds what Open tells of a log without looking at its note.
func wantCommits(t *testing.T, what string, d *disk.Disk, epoch int64, used int, commits ...[][]byte) {
	t.Helper()
	got := tell(t, d)
	if got.e != api.OK || got.epoch != epoch || got.used != used || got.commits != commitsText(commits) {
		t.Fatalf("%s: Open tells %+v; want the epoch %d, %d used, %s", what, got, epoch, used, commitsText(commits))
	}
}

// list is records, each of one text.
func list(texts ...string) [][]byte {
	var l [][]byte
	for _, s := range texts {
		l = append(l, []byte(s))
	}
	return l
}

// blanks is so many empty records.
func blanks(count int) [][]byte { return bytes.Split(make([]byte, count-1), []byte{0}) }
