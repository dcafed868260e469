package wal

import (
	"bytes"
	"fmt"
	"testing"

	"ramble/api"
	"ramble/disk"
)

// laidLog is a disk with a head of that epoch, 8 slots and sectors from the slot 0 on; behind its slots stand two sectors more.
func laidLog(t *testing.T, epoch int64, slots ...api.Sector) *disk.Disk {
	t.Helper()
	d := scribbled(t, 12)
	lay(t, d, int(epoch%2), headOf(epoch, 8, "note"))
	lay(t, d, 2, slots...)
	return d
}

// P6.2: commits in order, of any records, in any epoch, and how many slots they take.
func TestCommitsAreTold(t *testing.T) {
	for _, epoch := range []int64{1, 2, 7, 1 << 20, lastEpoch - 1, lastEpoch} {
		var slots []api.Sector
		commits := [][][]byte{list("a", "bc"), nil, {{}}, {rec(250, 1), {}, rec(3, 2)}, {rec(110, 1)}}
		for i, c := range commits {
			wantCommits(t, "one by one", laidLog(t, epoch, slots...), epoch, len(slots), commits[:i]...)
			slots = append(slots, framed(epoch, len(slots), laid(c...))...)
		}
		wantCommits(t, "all", laidLog(t, epoch, slots...), epoch, 7, commits...)
	}
}

// P6.2: commits that end in the last slot, that need one more, and what stands behind the last slot.
func TestCommitsAtTheEnd(t *testing.T) {
	whole := [][]byte{rec(8*112-3, 1)}
	wantCommits(t, "all slots", laidLog(t, 1, framed(1, 0, laid(whole...))...), 1, 8, whole)
	more := [][]byte{rec(8*112-2, 1)}
	wantCommits(t, "one slot too many", laidLog(t, 1, framed(1, 0, laid(more...))...), 1, 0)
	var slots []api.Sector
	var commits [][][]byte
	for i := range 10 {
		c := list(fmt.Sprint("c", i))
		commits = append(commits, c)
		slots = append(slots, framed(1, i, laid(c...))...)
	}
	wantCommits(t, "commits behind the last slot", laidLog(t, 1, slots...), 1, 8, commits[:8]...)
	slots[7] = inSlot(2, 1, 7, nil)
	wantCommits(t, "no end in the last slot", laidLog(t, 1, slots...), 1, 7, commits[:7]...)
}

// three is one commit of three frames behind one of one frame, and ahead of another.
func three() ([]api.Sector, [][][]byte) {
	commits := [][][]byte{list("first"), {rec(200, 1), rec(50, 2)}, list("last")}
	slots := framed(5, 0, laid(commits[0]...))
	slots = append(slots, framed(5, 1, laid(commits[1]...))...)
	return append(slots, framed(5, 4, laid(commits[2]...))...), commits
}

// wantCut holds that with s in a slot of three's, Open tells the first commit alone.
func wantCut(t *testing.T, what string, slot int, s api.Sector) {
	t.Helper()
	slots, commits := three()
	slots[slot] = s
	wantCommits(t, fmt.Sprintf("%s in the slot %d", what, slot), laidLog(t, 5, slots...), 5, 1, commits[0])
}

// P6.2: one frame that is not right ends all commits, the one that it stands in with them.
func TestFramesThatDoNotFit(t *testing.T) {
	slots, commits := three()
	wantCommits(t, "whole", laidLog(t, 5, slots...), 5, 5, commits...)
	for slot := 1; slot <= 3; slot++ {
		s := slots[slot]
		kind, pay := s[0], s[10:10+int(s[1])]
		wantCut(t, "zeros", slot, api.Sector{})
		wantCut(t, "a scribble", slot, api.Sector(rec(128, 9)))
		for _, epoch := range []int64{0, 1, 3, 4, 6, lastEpoch} {
			wantCut(t, "another epoch", slot, inSlot(kind, epoch, slot, pay))
		}
		for _, other := range []int{0, slot - 1, slot + 1, slot + 8, slot + 256, 65535} {
			if other != slot {
				wantCut(t, "another slot's number", slot, inSlot(kind, 5, other, pay))
			}
		}
		wantCut(t, "a slot for a number", slot, written(kind, int64(slot), pay))
		for _, kind := range []byte{1, 4, 5, 128, 255} {
			wantCut(t, "another kind", slot, inSlot(kind, 5, slot, pay))
		}
		damaged := s
		damaged[20] ^= 4
		wantCut(t, "damage", slot, damaged)
	}
	for slot := 1; slot <= 2; slot++ {
		wantCut(t, "an early end", slot, inSlot(3, 5, slot, slots[slot][10:122]))
	}
	wantCut(t, "no end", 3, inSlot(2, 5, 3, slots[3][10:10+int(slots[3][1])]))
}

// P6.2: a slot that cannot be read is no frame, and ends all commits.
func TestTornSlots(t *testing.T) {
	slots, commits := three()
	for slot, told := range []int{0, 1, 1, 1, 2, 3, 3, 3} {
		d := laidLog(t, 5, slots...)
		tear(t, d, 2+slot)
		wantCommits(t, fmt.Sprint("slot ", slot), d, 5, []int{0, 1, 4, 5}[told], commits[:told]...)
	}
}

// P6.2: bytes that are no commit's, in one frame or in several, though the frames fit.
func TestBytesThatAreNoCommit(t *testing.T) {
	many := bytes.Repeat([]byte{128}, 300)
	for _, c := range []struct {
		what string
		b    []byte
	}{
		{"nothing", nil},
		{"a count that ends early", []byte{129}},
		{"a count in two bytes that needs one", []byte{128, 0}},
		{"a count of 1 in two bytes", []byte{129, 0, 0}},
		{"a count above 2^64", append(bytes.Repeat([]byte{128}, 9), 2)},
		{"a count of eleven bytes", append(bytes.Repeat([]byte{128}, 10), 1)},
		{"a record that lacks", []byte{1}},
		{"the second record lacks", []byte{2, 1, 'a'}},
		{"records of a count of 2^64 - 1", append(bytes.Repeat([]byte{255}, 9), 1, 1, 'a')},
		{"a length that ends early", []byte{1, 129}},
		{"a length in two bytes that needs one", []byte{1, 129, 0, 'a'}},
		{"a length above 2^64", append(append([]byte{1}, bytes.Repeat([]byte{128}, 9)...), 2)},
		{"a length of 2^64 - 1", append(append([]byte{1}, bytes.Repeat([]byte{255}, 9)...), 1, 'a')},
		{"a length of 2^63", append(append([]byte{1}, bytes.Repeat([]byte{128}, 9)...), 1, 'a')},
		{"a record with a byte too few", []byte{1, 3, 'a', 'b'}},
		{"a byte too many", []byte{1, 2, 'a', 'b', 'c'}},
		{"a byte behind no records", []byte{0, 0}},
		{"a record more than the count", []byte{1, 1, 'a', 1, 'b'}},
		{"a byte less, in several frames", laid(rec(300, 1))[:302]},
		{"a byte more, in several frames", append(laid(rec(300, 1)), 0)},
		{"a number that never ends", many},
		{"scribbles", rec(400, 7)},
	} {
		slots := framed(5, 0, laid(list("ahead")...))
		slots = append(slots, framed(5, 1, c.b)...)
		slots = append(slots, framed(5, len(slots), laid(list("behind")...))...)
		wantCommits(t, c.what, laidLog(t, 5, slots...), 5, 1, list("ahead"))
	}
}

// P6.2: a commit is told by its frames' kinds and numbers and by all their bytes, however these are spread over the frames.
func TestFramesThatAreNotFull(t *testing.T) {
	b := laid(list("abc", "", "def")...)
	d := laidLog(t, 5,
		inSlot(2, 5, 0, b[:3]), inSlot(2, 5, 1, nil), inSlot(2, 5, 2, b[3:]), inSlot(3, 5, 3, nil),
		inSlot(3, 5, 4, laid(list("x")...)))
	wantCommits(t, "spread", d, 5, 5, list("abc", "", "def"), list("x"))
}

// P6.2, Bound: the most that a log can have is told.
func TestMostCommits(t *testing.T) {
	d := fresh(t, api.MaxSlots+2)
	l := format(t, d, api.MaxSlots, "")
	count := api.MaxSlots*112 - 3
	want(t, "Append", l.Append(make([][]byte, count)...), api.OK)
	m, _, commits, e := Open(d)
	want(t, "Open", e, api.OK)
	wantLog(t, "full of empty records", m, api.MaxSlots, api.MaxSlots, 1, false)
	if len(commits) != 1 || len(commits[0]) != count {
		t.Errorf("%d commits", len(commits))
	}
	want(t, "Reset", l.Reset(), api.OK)
	for i := range api.MaxSlots {
		want(t, "Append", l.Append([]byte{byte(i)}), api.OK)
	}
	want(t, "Append", l.Append(), api.ErrFull)
	m, _, commits, e = Open(d)
	want(t, "Open", e, api.OK)
	wantLog(t, "full of commits", m, api.MaxSlots, api.MaxSlots, 2, false)
	for i, c := range commits {
		if len(c) != 1 || len(c[0]) != 1 || c[0][0] != byte(i) {
			t.Fatalf("commit %d: %v", i, c)
		}
	}
	if len(commits) != api.MaxSlots {
		t.Errorf("%d commits", len(commits))
	}
}
