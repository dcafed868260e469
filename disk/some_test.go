package disk

import (
	"math"
	"reflect"
	"testing"

	"ramble/api"
)

// mark is a sector whose bytes all tell of which number it was made; of 0 it is of zeros.
func mark(b byte) api.Sector {
	var s api.Sector
	for i := range s {
		s[i] = b + byte(i)*b
	}
	return s
}

// fresh is a disk of so many sectors.
func fresh(t *testing.T, sectors int) *Disk {
	t.Helper()
	d, e := New(sectors)
	if d == nil || e != api.OK {
		t.Fatalf("New(%d): %v, %d", sectors, d != nil, e)
	}
	return d
}

// flushed is a disk of so many sectors, in which each has the mark 100 and its number, and nothing is dirty.
func flushed(t *testing.T, sectors int) *Disk {
	t.Helper()
	d := fresh(t, sectors)
	for n := range sectors {
		write(t, d, n, byte(100+n))
	}
	want(t, "Flush", d.Flush(), api.OK)
	return d
}

func write(t *testing.T, d *Disk, n int, b byte) {
	t.Helper()
	if e := d.Write(n, mark(b)); e != api.OK {
		t.Fatalf("Write(%d): %d", n, e)
	}
}

// tornAt is a disk of so many sectors, as flushed makes it, of which one is torn.
func tornAt(t *testing.T, sectors, n int) *Disk {
	t.Helper()
	d := flushed(t, sectors)
	write(t, d, n, 1)
	want(t, "Crash", d.Crash(0, true), api.OK)
	want(t, "Start", d.Start(0, true), api.OK)
	wantRead(t, d, n, api.Sector{}, api.ErrTorn)
	return d
}

// burnt is d behind a fuse of 1 that a Flush has met.
func burnt(t *testing.T, d *Disk) *Disk {
	t.Helper()
	want(t, "SetFuse", d.SetFuse(1), api.OK)
	want(t, "Flush", d.Flush(), api.ErrDown)
	return d
}

func want(t *testing.T, what string, got, e api.Errno) {
	t.Helper()
	if got != e {
		t.Fatalf("%s: got %d, want %d", what, got, e)
	}
}

func wantRead(t *testing.T, d *Disk, n int, s api.Sector, e api.Errno) {
	t.Helper()
	if got, err := d.Read(n); got != s || err != e {
		t.Fatalf("Read(%d): got %v, %d; want %v, %d", n, got[:4], err, s[:4], e)
	}
}

// wantMarks holds all sectors of d against the marks that they should have; -1 is a torn one.
func wantMarks(t *testing.T, d *Disk, marks ...int) {
	t.Helper()
	for n, m := range marks {
		if m < 0 {
			wantRead(t, d, n, api.Sector{}, api.ErrTorn)
		} else {
			wantRead(t, d, n, mark(byte(m)), api.OK)
		}
	}
	wantRead(t, d, len(marks), api.Sector{}, api.ErrPlace)
}

func wantDirty(t *testing.T, d *Disk, numbers ...int) {
	t.Helper()
	got := d.Dirty()
	if len(got) != len(numbers) || len(got) > 0 && !reflect.DeepEqual(got, numbers) {
		t.Fatalf("Dirty: got %v, want %v", got, numbers)
	}
}

func wantCalls(t *testing.T, d *Disk, calls int64) {
	t.Helper()
	if got := d.Calls(); got != calls {
		t.Fatalf("Calls: got %d, want %d", got, calls)
	}
}

// answer is what Read answers of one sector.
type answer struct {
	s api.Sector
	e api.Errno
}

// reads is what d answers of each of its sectors.
func reads(d *Disk) []answer {
	var l []answer
	for n := range d.Sectors() {
		s, e := d.Read(n)
		l = append(l, answer{s, e})
	}
	return l
}

// most is how many calls ahead a fuse is looked for.
const most = 5

// view is all that can be found out about a disk: what it tells, what it would tell if all or nothing of the cache were lost, and when its fuse lets the power go.
type view struct {
	down           bool
	sectors        int
	calls          int64
	dirty          []int
	now, lost, all []answer
	fuse           int
}

// see finds out all about d; d is left as it is, if Clone's disks go their own way.
func see(d *Disk) view {
	v := view{down: d.Down(), sectors: d.Sectors(), calls: d.Calls(), dirty: d.Dirty(), now: reads(d)}
	v.lost = reads(restarted(d))
	v.all = reads(restarted(d, true))
	c := restarted(d)
	for i := 1; i <= most && v.fuse == 0; i++ {
		if c.Flush() != api.OK {
			v.fuse = i
		}
	}
	return v
}

// restarted is a clone of d behind the power's going and coming back.
func restarted(d *Disk, keep ...bool) *Disk {
	c := d.Clone()
	if !c.Down() {
		c.Crash(-1, keep...)
	}
	c.Start(-1, keep...)
	return c
}

// wantView holds all that can be found out about d against v.
func wantView(t *testing.T, what string, d *Disk, v view) {
	t.Helper()
	got := see(d)
	if len(got.dirty) == 0 && len(v.dirty) == 0 {
		got.dirty, v.dirty = nil, nil
	}
	if !reflect.DeepEqual(got, v) {
		t.Fatalf("%s: got %s\nwant %s", what, got.text(), v.text())
	}
}

// outside are numbers of which none is a sector of a disk of so many.
func outside(sectors int) []int {
	return []int{-1, sectors, sectors + 1, -sectors, math.MinInt, math.MaxInt, 1 << 32, -1 << 32}
}
