package disk

import (
	"fmt"
	"math/rand"
	"testing"

	"ramble/api"
)

// act is one call, told by a text, of a disk and of the model.
type act struct {
	text  string
	disk  func(d *Disk) api.Errno
	model func(m *model) api.Errno
}

func actWrite(n int, b byte) act {
	return act{fmt.Sprintf("Write(%d, %d)", n, b),
		func(d *Disk) api.Errno { return d.Write(n, mark(b)) },
		func(m *model) api.Errno { return m.write(n, mark(b)) }}
}

func actFlush() act { return act{"Flush()", (*Disk).Flush, (*model).flush} }

func actFuse(calls int) act {
	return act{fmt.Sprintf("SetFuse(%d)", calls),
		func(d *Disk) api.Errno { return d.SetFuse(calls) },
		func(m *model) api.Errno { return m.setFuse(calls) }}
}

func actCrash(torn int, keep ...bool) act {
	return act{fmt.Sprintf("Crash(%d, %v)", torn, keep),
		func(d *Disk) api.Errno { return d.Crash(torn, keep...) },
		func(m *model) api.Errno { return m.crash(torn, keep) }}
}

func actStart(torn int, keep ...bool) act {
	return act{fmt.Sprintf("Start(%d, %v)", torn, keep),
		func(d *Disk) api.Errno { return d.Start(torn, keep...) },
		func(m *model) api.Errno { return m.start(torn, keep) }}
}

func actBurst(n, at int, bits uint32) act {
	return act{fmt.Sprintf("Burst(%d, %d, %d)", n, at, bits),
		func(d *Disk) api.Errno { return d.Burst(n, at, bits) },
		func(m *model) api.Errno { return m.burst(n, at, bits) }}
}

// both does one thing to a disk and to the model, and holds the one against the other.
func both(t *testing.T, way string, d *Disk, m *model, a act) {
	t.Helper()
	if got, e := a.disk(d), a.model(m); got != e {
		t.Fatalf("%s: got %d, want %d", way, got, e)
	}
	wantView(t, way, d, m.view())
}

// P4.1 to P4.6: all short ways of a small disk, held against the model.
func TestAllWays(t *testing.T) {
	acts := []act{
		actWrite(0, 1), actWrite(1, 2), actWrite(2, 3), actFlush(),
		actFuse(0), actFuse(1), actFuse(2), actFuse(-1),
		actCrash(0), actCrash(0, true), actCrash(1, true, true), actCrash(-1, false, true),
		actStart(0, true), actStart(-1, true, false), actStart(1, true), actStart(0),
		actBurst(0, 3, 1), actBurst(1, 1024, 1),
	}
	deep := 4
	if testing.Short() {
		deep = 3
	}
	var grow func(way string, d *Disk, m *model, left int)
	grow = func(way string, d *Disk, m *model, left int) {
		if left == 0 {
			return
		}
		for _, a := range acts {
			d, m, way := d.Clone(), m.copy(), way+" "+a.text
			both(t, way, d, m, a)
			grow(way, d, m, left-1)
		}
	}
	grow("", fresh(t, 2), newModel(2), deep)
}

// someAct is any call on a disk of so many sectors, sometimes one that is refused.
func someAct(r *rand.Rand, sectors int) act {
	n := r.Intn(sectors)
	if r.Intn(12) == 0 {
		n = outside(sectors)[r.Intn(8)]
	}
	switch r.Intn(16) {
	case 0, 1:
		return actFlush()
	case 2:
		return actFuse(r.Intn(6) - 1)
	case 3:
		return actCrash(someTorn(r), someKeep(r)...)
	case 4, 5, 6:
		return actStart(someTorn(r), someKeep(r)...)
	case 7:
		return actBurst(n, r.Intn(1040)-8, r.Uint32())
	}
	return actWrite(n, byte(r.Intn(256)))
}

// P4.1 to P4.6: long ways of disks of some sectors, held against the model.
func TestLongWays(t *testing.T) {
	r := rand.New(rand.NewSource(6))
	for _, sectors := range []int{1, 2, 3, 5, 9, 40} {
		for range 20 {
			d, m := fresh(t, sectors), newModel(sectors)
			for i := range 100 {
				a := someAct(r, sectors)
				both(t, fmt.Sprintf("%d sectors, call %d, %s", sectors, i, a.text), d, m, a)
			}
		}
	}
}

// R4: the same calls answer the same, whatever the order in which a map is gone through.
func TestSameAgain(t *testing.T) {
	run := func() *Disk {
		r := rand.New(rand.NewSource(7))
		d := fresh(t, 60)
		for range 400 {
			someAct(r, 60).disk(d)
		}
		return d
	}
	wantView(t, "the same again", run(), see(run()))
}
