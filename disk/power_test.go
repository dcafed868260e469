package disk

import (
	"math"
	"math/rand"
	"testing"

	"ramble/api"
)

// P4.2: fuses of 0, 1, 2 and more, met by a write and by a flush.
func TestFuse(t *testing.T) {
	type meets func(d *Disk) api.Errno
	byWrite := func(d *Disk) api.Errno { return d.Write(2, mark(9)) }
	for _, meet := range []meets{byWrite, (*Disk).Flush} {
		for calls := 1; calls < 5; calls++ {
			d := flushed(t, 3)
			write(t, d, 0, 1)
			want(t, "SetFuse", d.SetFuse(calls), api.OK)
			for range calls - 1 {
				write(t, d, 1, 2)
			}
			dirty, before := d.Dirty(), d.Calls()
			if d.Down() {
				t.Fatal("the power is away too early")
			}
			want(t, "the call of the fuse", meet(d), api.ErrDown)
			if !d.Down() {
				t.Fatal("the power is there behind the fuse")
			}
			wantDirty(t, d, dirty...)
			wantCalls(t, d, before)
			wantMarks(t, restarted(d), 100, 101, 102)
			want(t, "Start", d.Start(-1, true), api.OK)
			wantRead(t, d, 0, mark(1), api.OK)
			wantRead(t, d, 2, mark(102), api.OK)
			wantDirty(t, d)
			wantCalls(t, d, before)
		}
	}
}

// P4.2: a fuse that has burnt does so once.
func TestFuseBurnsOnce(t *testing.T) {
	d := burnt(t, flushed(t, 2))
	want(t, "Start", d.Start(0), api.OK)
	for range 20 {
		write(t, d, 1, 1)
		want(t, "Flush", d.Flush(), api.OK)
	}
	wantCalls(t, d, 43)
}

// P4.2: the power does not go by a fuse of 0, nor by one that is never met, nor by calls that are none.
func TestFuseNotMet(t *testing.T) {
	for _, calls := range []int{0, 100, 1 << 40, math.MaxInt} {
		d := flushed(t, 2)
		want(t, "SetFuse", d.SetFuse(calls), api.OK)
		for range 40 {
			write(t, d, 1, 1)
			want(t, "Flush", d.Flush(), api.OK)
		}
		wantCalls(t, d, 83)
	}
	d := flushed(t, 2)
	want(t, "SetFuse", d.SetFuse(1), api.OK)
	before := see(d)
	d.Read(0)
	d.Read(2)
	d.Write(2, mark(1))
	d.Write(-1, mark(1))
	d.SetFuse(-1)
	d.Start(0, true)
	d.Burst(0, 0, 0)
	d.Clone().Flush()
	wantView(t, "what is no call", d, before)
	want(t, "Flush", d.Flush(), api.ErrDown)
}

// P4.2: a later fuse takes the place of an earlier one, one that is refused does not.
func TestLaterFuse(t *testing.T) {
	for _, earlier := range []int{0, 1, 2, 3} {
		for _, later := range []int{-1, math.MinInt, 0, 1, 2, 3} {
			d := flushed(t, 2)
			want(t, "SetFuse", d.SetFuse(earlier), api.OK)
			holds := later
			if later < 0 {
				want(t, "SetFuse", d.SetFuse(later), api.ErrArg)
				holds = earlier
			} else {
				want(t, "SetFuse", d.SetFuse(later), api.OK)
			}
			if v := see(d); v.fuse != holds {
				t.Errorf("a fuse of %d, then one of %d: the power goes at %d", earlier, later, v.fuse)
			}
		}
	}
	d := flushed(t, 2)
	want(t, "SetFuse", d.SetFuse(3), api.OK)
	want(t, "Flush", d.Flush(), api.OK)
	want(t, "SetFuse", d.SetFuse(3), api.OK)
	want(t, "Flush", d.Flush(), api.OK)
	want(t, "Flush", d.Flush(), api.OK)
	want(t, "Flush", d.Flush(), api.ErrDown)
}

// P4.2: a fuse that was not met yet counts on behind a crash; what is refused for want of power is no call.
func TestFuseBehindCrash(t *testing.T) {
	d := flushed(t, 2)
	want(t, "SetFuse", d.SetFuse(2), api.OK)
	want(t, "Crash", d.Crash(0), api.OK)
	want(t, "Flush", d.Flush(), api.ErrDown)
	want(t, "Write", d.Write(0, mark(1)), api.ErrDown)
	want(t, "Start", d.Start(0), api.OK)
	want(t, "Flush", d.Flush(), api.OK)
	want(t, "Flush", d.Flush(), api.ErrDown)
}

// decided is what comes of five sectors, of which 1, 3 and 4 are dirty with the marks 1, 3 and 4, by what is kept and torn.
var decided = []struct {
	torn int
	keep []bool
	want []int
}{
	{0, nil, []int{100, 101, 102, 103, 104}},
	{-1, nil, []int{100, 101, 102, 103, 104}},
	{0, []bool{}, []int{100, 101, 102, 103, 104}},
	{-1, []bool{true}, []int{100, 1, 102, 3, 4}},
	{math.MinInt, []bool{true}, []int{100, 1, 102, 3, 4}},
	{3, []bool{true}, []int{100, 1, 102, 3, 4}},
	{4, []bool{true}, []int{100, 1, 102, 3, 4}},
	{math.MaxInt, []bool{true}, []int{100, 1, 102, 3, 4}},
	{0, []bool{true}, []int{100, -1, 102, 3, 4}},
	{1, []bool{true}, []int{100, 1, 102, -1, 4}},
	{2, []bool{true}, []int{100, 1, 102, 3, -1}},
	{0, []bool{false}, []int{100, 101, 102, 103, 104}},
	{-1, []bool{true, false}, []int{100, 1, 102, 103, 4}},
	{0, []bool{true, false}, []int{100, -1, 102, 103, 4}},
	{1, []bool{true, false}, []int{100, 1, 102, 103, -1}},
	{2, []bool{true, false}, []int{100, 1, 102, 103, 4}},
	{-1, []bool{false, true}, []int{100, 101, 102, 3, 104}},
	{0, []bool{false, true}, []int{100, 101, 102, -1, 104}},
	{1, []bool{false, true}, []int{100, 101, 102, 3, 104}},
	{-1, []bool{false, false, true}, []int{100, 101, 102, 103, 4}},
	{0, []bool{false, false, true}, []int{100, 101, 102, 103, -1}},
	{1, []bool{true, true, false}, []int{100, 1, 102, -1, 104}},
	{0, []bool{false, true, true, false}, []int{100, 101, 102, -1, 4}},
	{1, []bool{false, true, true, true, true, true}, []int{100, 101, 102, 3, -1}},
	{0, []bool{false, false, false, true, true, true}, []int{100, 101, 102, 103, 104}},
	{0, []bool{true, false, false, true, true, true}, []int{100, -1, 102, 103, 104}},
}

// written is five sectors, of which 4, 1 and 3 were written, each twice.
func written(t *testing.T) *Disk {
	t.Helper()
	d := flushed(t, 5)
	for _, n := range []int{4, 1, 3} {
		write(t, d, n, byte(n+50))
		write(t, d, n, byte(n))
	}
	return d
}

// P4.2: what is decided by Crash, and by Start behind a fuse, from what is kept and torn.
func TestDecided(t *testing.T) {
	for _, c := range decided {
		crashed := written(t)
		want(t, "Crash", crashed.Crash(c.torn, c.keep...), api.OK)
		if !crashed.Down() {
			t.Fatal("the power is there behind a crash")
		}
		wantDirty(t, crashed)
		wantCalls(t, crashed, 12)
		want(t, "Start", crashed.Start(0, true), api.OK)

		byFuse := burnt(t, written(t))
		wantDirty(t, byFuse, 1, 3, 4)
		want(t, "Start", byFuse.Start(c.torn, c.keep...), api.OK)
		for _, d := range []*Disk{crashed, byFuse} {
			if d.Down() {
				t.Fatal("the power is away behind a start")
			}
			wantDirty(t, d)
			wantCalls(t, d, 12)
			wantMarks(t, d, c.want...)
			wantMarks(t, restarted(d, true), c.want...)
		}
	}
}

// P4.2: a disk of as many sectors as there may be, all of them dirty.
func TestDecidedOfMany(t *testing.T) {
	d := fresh(t, api.MaxSectors)
	for i := range api.MaxSectors {
		n := (i*4099 + 17) % api.MaxSectors
		write(t, d, n, byte(1+n%250))
	}
	for i, n := range d.Dirty() {
		if i != n {
			t.Fatalf("Dirty has %d at the place %d", n, i)
		}
	}
	want(t, "Crash", d.Crash(1000, false, true, false), api.OK)
	want(t, "Start", d.Start(0, true), api.OK)
	for n := range api.MaxSectors {
		switch {
		case n == 3001:
			wantRead(t, d, n, api.Sector{}, api.ErrTorn)
		case n%3 == 1:
			wantRead(t, d, n, mark(byte(1+n%250)), api.OK)
		default:
			wantRead(t, d, n, api.Sector{}, api.OK)
		}
	}
}

// P4.2: the first example of the chapter.
func TestExample(t *testing.T) {
	made := func() *Disk {
		d := flushed(t, 6)
		write(t, d, 3, 3)
		write(t, d, 5, 5)
		return d
	}
	d := made()
	want(t, "Crash", d.Crash(1, true), api.OK)
	want(t, "Start", d.Start(-1), api.OK)
	wantMarks(t, d, 100, 101, 102, 3, 104, -1)
	d = made()
	want(t, "Crash", d.Crash(0, true, false), api.OK)
	want(t, "Start", d.Start(-1), api.OK)
	wantMarks(t, d, 100, 101, 102, -1, 104, 105)
}

// P4.2: a torn sector that is written and kept is whole, or torn again; one that is not kept is torn as it was.
func TestDecidedOfTorn(t *testing.T) {
	made := func() *Disk {
		d := tornAt(t, 3, 1)
		write(t, d, 0, 8)
		write(t, d, 1, 9)
		return d
	}
	cases := []struct {
		torn int
		keep []bool
		want []int
	}{
		{-1, nil, []int{100, -1, 102}},
		{-1, []bool{true}, []int{8, 9, 102}},
		{1, []bool{true}, []int{8, -1, 102}},
		{0, []bool{true}, []int{-1, 9, 102}},
		{0, []bool{true, false}, []int{-1, -1, 102}},
		{-1, []bool{true, false}, []int{8, -1, 102}},
	}
	for _, c := range cases {
		d := made()
		want(t, "Crash", d.Crash(c.torn, c.keep...), api.OK)
		want(t, "Start", d.Start(-1), api.OK)
		wantMarks(t, d, c.want...)
	}
}

// P4.2: Start while the power is there is refused, and decides nothing.
func TestStartWithPower(t *testing.T) {
	for _, d := range []*Disk{fresh(t, 1), written(t), tornAt(t, 2, 0)} {
		want(t, "SetFuse", d.SetFuse(2), api.OK)
		before := see(d)
		for _, torn := range []int{-1, 0, 1, math.MinInt, math.MaxInt} {
			want(t, "Start", d.Start(torn), api.ErrArg)
			want(t, "Start", d.Start(torn, true), api.ErrArg)
			want(t, "Start", d.Start(torn, false), api.ErrArg)
		}
		wantView(t, "a start that was refused", d, before)
	}
}

// P4.4: what was flushed and not written since stays, whatever is decided, again and again.
func TestFlushedStays(t *testing.T) {
	r := rand.New(rand.NewSource(4))
	for range 300 {
		d := flushed(t, 6)
		for range 4 {
			write(t, d, 2*r.Intn(3), byte(r.Intn(99)))
		}
		if r.Intn(2) == 0 {
			burnt(t, d)
		} else {
			want(t, "Crash", d.Crash(someTorn(r), someKeep(r)...), api.OK)
		}
		want(t, "Start", d.Start(someTorn(r), someKeep(r)...), api.OK)
		for n := 1; n < 6; n += 2 {
			wantRead(t, d, n, mark(byte(100+n)), api.OK)
		}
	}
}

func someTorn(r *rand.Rand) int { return r.Intn(6) - 2 }

func someKeep(r *rand.Rand) []bool {
	var l []bool
	for range r.Intn(6) {
		l = append(l, r.Intn(3) > 0)
	}
	return l
}

// P4.5: behind a crash a sector has what it had, or what was written last, or is torn; one at most is; and each of these comes about.
func TestWhatMayBe(t *testing.T) {
	r := rand.New(rand.NewSource(5))
	var had, last, torn int
	for range 500 {
		d := flushed(t, 5)
		for range 8 {
			write(t, d, r.Intn(5), byte(r.Intn(99)))
		}
		before := see(d)
		want(t, "Crash", d.Crash(someTorn(r), someKeep(r)...), api.OK)
		want(t, "Start", d.Start(someTorn(r), someKeep(r)...), api.OK)
		tornNow := 0
		for n := range 5 {
			s, e := d.Read(n)
			switch got := (answer{s, e}); {
			case got == before.lost[n]:
				had++
			case got == before.all[n]:
				last++
			case e == api.ErrTorn:
				tornNow++
			default:
				t.Fatalf("sector %d: %d, %v", n, e, s[:4])
			}
		}
		if tornNow > 1 {
			t.Fatalf("%d sectors are torn at once", tornNow)
		}
		torn += tornNow
	}
	if had == 0 || last == 0 || torn == 0 {
		t.Errorf("%d times as ahead, %d times as written, %d times torn", had, last, torn)
	}
}

// P4.6: a torn sector is read again as soon as it is written, each of them, and what was written.
func TestReadAgain(t *testing.T) {
	for n := range 4 {
		d := tornAt(t, 4, n)
		for _, b := range []byte{0, 1, 255} {
			write(t, d, n, b)
			wantRead(t, d, n, mark(b), api.OK)
		}
	}
}
