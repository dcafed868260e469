package disk

import (
	"math"
	"slices"
	"testing"

	"ramble/api"
)

// P4.1: how many sectors a disk may have, and what it is at first.
func TestNew(t *testing.T) {
	for _, sectors := range []int{0, -1, -2, api.MaxSectors + 1, math.MinInt, math.MaxInt, 1 << 32, 1<<32 + 1} {
		if d, e := New(sectors); d != nil || e != api.ErrArg {
			t.Errorf("New(%d): %v, %d", sectors, d != nil, e)
		}
	}
	for _, sectors := range []int{1, 2, 127, 128, 129, api.MaxSectors - 1, api.MaxSectors} {
		d := fresh(t, sectors)
		if d.Sectors() != sectors || d.Down() || len(d.Dirty()) > 0 || d.Calls() != 0 {
			t.Errorf("New(%d): %d sectors, down %v, dirty %v, %d calls", sectors, d.Sectors(), d.Down(), d.Dirty(), d.Calls())
		}
		for n := range sectors {
			wantRead(t, d, n, api.Sector{}, api.OK)
		}
		wantRead(t, d, sectors, api.Sector{}, api.ErrPlace)
	}
}

// P4.1: a sector is read as it was written, flushed or not, and no other is touched.
func TestWriteAndFlush(t *testing.T) {
	d := flushed(t, 4)
	wantMarks(t, d, 100, 101, 102, 103)
	wantDirty(t, d)
	wantCalls(t, d, 5)
	write(t, d, 3, 7)
	write(t, d, 0, 8)
	write(t, d, 3, 9)
	wantMarks(t, d, 8, 101, 102, 9)
	wantDirty(t, d, 0, 3)
	wantCalls(t, d, 8)
	want(t, "Flush", d.Flush(), api.OK)
	wantMarks(t, d, 8, 101, 102, 9)
	wantDirty(t, d)
	wantCalls(t, d, 9)
	want(t, "Flush", d.Flush(), api.OK)
	wantMarks(t, d, 8, 101, 102, 9)
	wantCalls(t, d, 10)
}

// P4.1: a sector of zeros that is written is dirty as any other is, and so is one that gets what it has.
func TestDirtyByWriting(t *testing.T) {
	d := fresh(t, 3)
	want(t, "Write", d.Write(1, api.Sector{}), api.OK)
	wantDirty(t, d, 1)
	write(t, d, 2, 5)
	want(t, "Flush", d.Flush(), api.OK)
	write(t, d, 2, 5)
	wantDirty(t, d, 2)
}

// P4.1: sectors that there are not are refused, at each call that takes one, and that is no call.
func TestPlaces(t *testing.T) {
	for _, sectors := range []int{1, 3, api.MaxSectors} {
		d := fresh(t, sectors)
		write(t, d, 0, 1)
		write(t, d, sectors-1, 2)
		wantRead(t, d, sectors-1, mark(2), api.OK)
		want(t, "SetFuse", d.SetFuse(2), api.OK)
		for _, n := range outside(sectors) {
			wantRead(t, d, n, api.Sector{}, api.ErrPlace)
			want(t, "Write", d.Write(n, mark(3)), api.ErrPlace)
			want(t, "Burst", d.Burst(n, 0, 1), api.ErrPlace)
			want(t, "Burst", d.Burst(n, -1, 1), api.ErrPlace)
		}
		wantCalls(t, d, 2)
		want(t, "Write", d.Write(0, mark(4)), api.OK)
		want(t, "Write", d.Write(-1, mark(4)), api.ErrPlace)
		want(t, "Write", d.Write(0, mark(5)), api.ErrDown)
		wantCalls(t, d, 3)
	}
}

// P4.1, P4.6: a torn sector is not read; it is read again while it is dirty, and behind a flush; if the write is lost, it is torn as it was.
func TestTorn(t *testing.T) {
	d := tornAt(t, 3, 1)
	wantMarks(t, d, 100, -1, 102)
	want(t, "Flush", d.Flush(), api.OK)
	wantMarks(t, d, 100, -1, 102)
	write(t, d, 2, 6)
	want(t, "Flush", d.Flush(), api.OK)
	wantMarks(t, d, 100, -1, 6)
	write(t, d, 1, 7)
	wantMarks(t, d, 100, 7, 6)
	lost := restarted(d)
	wantMarks(t, lost, 100, -1, 6)
	kept := restarted(d, true)
	wantMarks(t, kept, 100, 7, 6)
	want(t, "Flush", d.Flush(), api.OK)
	wantMarks(t, d, 100, 7, 6)
	wantMarks(t, restarted(d), 100, 7, 6)
}

// P4.1: while the power is away nothing is read, written or flushed, whichever the sector.
func TestPowerAway(t *testing.T) {
	crashed, byFuse := flushed(t, 3), flushed(t, 3)
	write(t, crashed, 1, 1)
	want(t, "Crash", crashed.Crash(-1, true), api.OK)
	write(t, byFuse, 1, 1)
	burnt(t, byFuse)
	for _, d := range []*Disk{crashed, byFuse} {
		before := see(d)
		if !d.Down() || d.Sectors() != 3 {
			t.Fatalf("Down %v, %d sectors", d.Down(), d.Sectors())
		}
		for _, n := range append(outside(3), 0, 1, 2) {
			wantRead(t, d, n, api.Sector{}, api.ErrDown)
			want(t, "Write", d.Write(n, mark(2)), api.ErrDown)
		}
		want(t, "Flush", d.Flush(), api.ErrDown)
		want(t, "Crash", d.Crash(0), api.ErrDown)
		for _, calls := range []int{-1, 0, 1, 2, math.MinInt, math.MaxInt} {
			want(t, "SetFuse", d.SetFuse(calls), api.ErrDown)
		}
		wantView(t, "refused calls", d, before)
	}
}

// P4.3: which bits a burst turns: at the first and the last bit, within a byte, over bytes, across the sector's end.
func TestBurst(t *testing.T) {
	cases := []struct {
		at   int
		bits uint32
		want map[int]byte
	}{
		{0, 0, nil},
		{0, 1, map[int]byte{0: 1}},
		{1, 1, map[int]byte{0: 2}},
		{7, 1, map[int]byte{0: 128}},
		{8, 1, map[int]byte{1: 1}},
		{7, 3, map[int]byte{0: 128, 1: 1}},
		{0, 0x80, map[int]byte{0: 128}},
		{0, 0x80000001, map[int]byte{0: 1, 3: 128}},
		{0, 0x04030201, map[int]byte{0: 1, 1: 2, 2: 3, 3: 4}},
		{4, 0xffffffff, map[int]byte{0: 0xf0, 1: 0xff, 2: 0xff, 3: 0xff, 4: 0x0f}},
		{992, 0xffffffff, map[int]byte{124: 0xff, 125: 0xff, 126: 0xff, 127: 0xff}},
		{993, 0xffffffff, map[int]byte{124: 0xfe, 125: 0xff, 126: 0xff, 127: 0xff}},
		{993, 0x80000000, nil},
		{1023, 1, map[int]byte{127: 128}},
		{1023, 0xffffffff, map[int]byte{127: 128}},
		{1023, 0xfffffffe, nil},
		{1020, 0x15, map[int]byte{127: 0x50}},
	}
	for _, c := range cases {
		for _, last := range []int{0, 1, 2} {
			d := flushed(t, 3)
			want(t, "Burst", d.Burst(last, c.at, c.bits), api.OK)
			s := mark(byte(100 + last))
			for k, b := range c.want {
				s[k] ^= b
			}
			for n := range 3 {
				if n == last {
					wantRead(t, d, n, s, api.OK)
				} else {
					wantRead(t, d, n, mark(byte(100+n)), api.OK)
				}
			}
			wantDirty(t, d)
			wantCalls(t, d, 4)
			want(t, "Burst", d.Burst(last, c.at, c.bits), api.OK)
			wantMarks(t, d, 100, 101, 102)
		}
	}
}

// P4.3: a burst of places that no bit has is refused, and nothing is turned.
func TestBurstRefused(t *testing.T) {
	d := flushed(t, 2)
	before := see(d)
	for _, at := range []int{-1, -8, -32, 1024, 1025, math.MinInt, math.MaxInt, 1 << 32, -1 << 32} {
		want(t, "Burst", d.Burst(0, at, 0xffffffff), api.ErrArg)
		want(t, "Burst", d.Burst(1, at, 0), api.ErrArg)
		want(t, "Burst", d.Burst(2, at, 1), api.ErrPlace)
	}
	wantView(t, "refused bursts", d, before)
}

// P4.3: a burst is in what stays: the cache is left, a torn sector torn, and it is no call and needs no power.
func TestBurstBeneath(t *testing.T) {
	turned := mark(101)
	turned[0] ^= 5
	d := flushed(t, 3)
	write(t, d, 1, 9)
	want(t, "SetFuse", d.SetFuse(1), api.OK)
	want(t, "Burst", d.Burst(1, 0, 5), api.OK)
	wantDirty(t, d, 1)
	wantCalls(t, d, 5)
	wantRead(t, d, 1, mark(9), api.OK)
	wantRead(t, restarted(d), 1, turned, api.OK)
	wantRead(t, restarted(d, true), 1, mark(9), api.OK)

	want(t, "Flush", d.Flush(), api.ErrDown)
	want(t, "Burst", d.Burst(1, 0, 5), api.OK)
	want(t, "Burst", d.Burst(1, 1024, 5), api.ErrArg)
	want(t, "Burst", d.Burst(3, 0, 5), api.ErrPlace)
	wantDirty(t, d, 1)
	wantCalls(t, d, 5)
	wantMarks(t, restarted(d), 100, 101, 102)
	want(t, "Burst", d.Burst(1, 0, 5), api.OK)
	wantRead(t, restarted(d), 1, turned, api.OK)
	if !d.Down() {
		t.Error("a burst brought the power back")
	}

	d = tornAt(t, 2, 1)
	want(t, "Burst", d.Burst(1, 0, 5), api.OK)
	wantMarks(t, d, 100, -1)
	write(t, d, 1, 9)
	want(t, "Burst", d.Burst(1, 0, 5), api.OK)
	wantMarks(t, d, 100, 9)
	wantMarks(t, restarted(d), 100, -1)
	want(t, "Flush", d.Flush(), api.OK)
	wantMarks(t, d, 100, 9)
}

// P4.3: a clone is the same, in all that can be found out, and each goes its own way.
func TestClone(t *testing.T) {
	made := func() *Disk {
		d := tornAt(t, 4, 2)
		write(t, d, 0, 1)
		write(t, d, 3, 2)
		want(t, "SetFuse", d.SetFuse(3), api.OK)
		return d
	}
	steps := []func(d *Disk) api.Errno{
		func(d *Disk) api.Errno { return d.Write(0, mark(7)) },
		func(d *Disk) api.Errno { return d.Write(1, mark(7)) },
		func(d *Disk) api.Errno { return d.Write(2, mark(7)) },
		(*Disk).Flush,
		func(d *Disk) api.Errno { return d.SetFuse(1) },
		func(d *Disk) api.Errno { return d.Crash(1, true) },
		func(d *Disk) api.Errno { return d.Burst(1, 9, 77) },
	}
	for i, step := range steps {
		d := made()
		before := see(d)
		c := d.Clone()
		wantView(t, "a clone", c, before)
		want(t, "a step", step(c), api.OK)
		wantView(t, "a disk whose clone goes on", d, before)
		behind := see(c)
		want(t, "a step", step(d), api.OK)
		wantView(t, "a disk that goes as its clone went", d, behind)
		d.Crash(0, true)
		d.Start(0)
		d.Write(3, mark(6))
		wantView(t, "a clone whose disk goes on", c, behind)
		if i == 0 && slices.Equal(behind.now, before.now) {
			t.Error("the step did nothing")
		}
	}
	d := burnt(t, made())
	c := d.Clone()
	wantView(t, "a clone without power", c, see(d))
	want(t, "Start", c.Start(0, true), api.OK)
	wantMarks(t, c, -1, 101, -1, 2)
	wantDirty(t, d, 0, 3)
	if !d.Down() {
		t.Error("the clone's power is the disk's")
	}
}

// R3: what is told of a disk may be changed, and what it was handed.
func TestNothingShared(t *testing.T) {
	d := flushed(t, 4)
	write(t, d, 1, 1)
	write(t, d, 3, 2)
	before := see(d)
	for _, l := range [][]int{d.Dirty(), d.Dirty()} {
		l[0], l[1] = 2, 0
		wantView(t, "a changed list", d, before)
	}
	s, _ := d.Read(1)
	s[0]++
	wantView(t, "a changed sector", d, before)
	s = mark(3)
	want(t, "Write", d.Write(1, s), api.OK)
	s[0]++
	wantRead(t, d, 1, mark(3), api.OK)
	keep := []bool{true, false, true}
	want(t, "Crash", d.Crash(-1, keep...), api.OK)
	keep[1] = true
	want(t, "Start", d.Start(-1, keep[:2]...), api.OK)
	if !slices.Equal(keep, []bool{true, true, true}) {
		t.Errorf("keep became %v", keep)
	}
	wantMarks(t, d, 100, 3, 102, 103)
}

// R5: a disk that no call made.
func TestMade(t *testing.T) {
	for _, d := range []*Disk{nil, {}, new(Disk)} {
		for _, n := range []int{0, -1, 1, math.MinInt, math.MaxInt} {
			wantRead(t, d, n, api.Sector{}, api.ErrMade)
			want(t, "Write", d.Write(n, mark(1)), api.ErrMade)
			want(t, "SetFuse", d.SetFuse(n), api.ErrMade)
			want(t, "Crash", d.Crash(n), api.ErrMade)
			want(t, "Crash", d.Crash(n, true, false), api.ErrMade)
			want(t, "Start", d.Start(n), api.ErrMade)
			want(t, "Start", d.Start(n, true, false), api.ErrMade)
			want(t, "Burst", d.Burst(n, 0, 1), api.ErrMade)
			want(t, "Burst", d.Burst(0, n, 1), api.ErrMade)
		}
		want(t, "Flush", d.Flush(), api.ErrMade)
		if d.Down() || d.Sectors() != 0 || len(d.Dirty()) > 0 || d.Calls() != 0 || d.Clone() != nil {
			t.Error("a disk that no call made tells something")
		}
	}
}
