package pager

import (
	"bytes"
	"encoding/binary"
	"fmt"
	"math"
	"math/rand"
	"testing"

	"ramble/api"
	"ramble/disk"
	"ramble/wal"
)

// P7.1: how many pages may be held.
func TestOpenPool(t *testing.T) {
	d, _ := filled(t, 6, 8, "a")
	for _, pool := range []int{7, 0, -1, 257, 1 << 32, 1<<32 + 8, math.MinInt, math.MaxInt} {
		wantOpenError(t, "pool", d, pool, api.ErrArg)
	}
	for _, pool := range []int{8, 9, 100, 255, 256} {
		p := open(t, d, pool)
		if p.Pool() != pool || p.Held() != 0 {
			t.Fatalf("a pool of %d, %d held; want %d", p.Pool(), p.Held(), pool)
		}
		wantView(t, "pool", p, texts("a"))
	}
}

// P7.1, R1: which error of Open comes first where several apply.
func TestOpenErrorsInOrder(t *testing.T) {
	for _, d := range []*disk.Disk{nil, {}} {
		wantOpenError(t, "no disk", d, 0, api.ErrMade)
		wantOpenError(t, "no disk", d, 8, api.ErrMade)
	}
	blank := fresh(t, 20)
	wantOpenError(t, "no log, and a pool of 7", blank, 7, api.ErrArg)
	wantOpenError(t, "no log", blank, 8, api.ErrLog)
	d := formatted(t, 2, 2)
	for _, d := range []*disk.Disk{blank, d} {
		want(t, "Crash", d.Crash(-1), api.OK)
		wantOpenError(t, "down, and a pool of 7", d, 7, api.ErrDown)
		wantOpenError(t, "down", d, 8, api.ErrDown)
	}
}

// P7.1: sectors that no log is.
func TestOpenNoLog(t *testing.T) {
	for sectors := 1; sectors < 20; sectors++ {
		wantOpenError(t, "zeros", fresh(t, sectors), 8, api.ErrLog)
		wantOpenError(t, "scribbles", scribbled(t, sectors), 8, api.ErrLog)
	}
	d := formatted(t, 2, 2)
	lay(t, d, 1, api.Sector{})
	wantOpenError(t, "without its head", d, 8, api.ErrLog)
}

// P7.1: a log's note that does not tell how many pages there are, or tells another number than there may be.
func TestOpenNotes(t *testing.T) {
	uvarint := func(n uint64) []byte { return binary.AppendUvarint(nil, n) }
	for _, c := range []struct {
		note []byte
		e    api.Errno
	}{
		{nil, api.ErrDamage},
		{[]byte{128}, api.ErrDamage},
		{[]byte{128, 0}, api.ErrDamage},
		{[]byte{132, 0}, api.ErrDamage},
		{[]byte{4, 0}, api.ErrDamage},
		{[]byte{4, 4}, api.ErrDamage},
		{[]byte("text"), api.ErrDamage},
		{bytes.Repeat([]byte{255}, 20), api.ErrDamage},
		{uvarint(0), api.ErrDamage},
		{uvarint(1), api.ErrDamage},
		{uvarint(5), api.ErrDamage},
		{uvarint(api.MaxPages), api.ErrDamage},
		{uvarint(api.MaxPages + 1), api.ErrDamage},
		{uvarint(1<<32 + 4), api.ErrDamage},
		{uvarint(1<<62 + 4), api.ErrDamage},
		{uvarint(math.MaxUint64), api.ErrDamage},
		{uvarint(4), api.OK},
	} {
		d := formatted(t, 3, 4)
		_, e := wal.Format(d, 3, c.note)
		want(t, "wal.Format", e, api.OK)
		if c.e == api.OK {
			wantView(t, "the right note", open(t, d, 8), texts())
			continue
		}
		wantOpenError(t, fmt.Sprint("note ", c.note), d, 8, c.e)
	}
}

// P7.1: the greatest number of pages, and one more, where the disk has the sectors.
func TestOpenMostPages(t *testing.T) {
	for pages, e := range map[int]api.Errno{api.MaxPages: api.OK, api.MaxPages + 1: api.ErrDamage} {
		d := fresh(t, api.MaxSectors)
		want(t, "Format", Format(d, 3, api.MaxPages), api.OK)
		_, _ = wal.Format(d, 3, binary.AppendUvarint(nil, uint64(pages)))
		if _, got := Open(d, 8); got != e {
			t.Errorf("%d pages: %d", pages, got)
		}
	}
}

// withLog is pages of which 1 and 2 are not free, and a log with these commits.
func withLog(t *testing.T, slots, pages int, commits ...[][]byte) *disk.Disk {
	t.Helper()
	d := formatted(t, slots, pages)
	lay(t, d, 2+slots, sectorsOf(0, page0(pages, [4]int64{7, -8, 9}, 1, 2))...)
	lay(t, d, 2+slots+4, sectorsOf(1, []byte("one"))...)
	lay(t, d, 2+slots+8, sectorsOf(2, some(300, 2))...)
	l, e := wal.Format(d, slots, binary.AppendUvarint(nil, uint64(pages)))
	want(t, "wal.Format", e, api.OK)
	for _, records := range commits {
		want(t, "Append", l.Append(records...), api.OK)
	}
	return d
}

// P7.1: a record that is no page's, in whichever commit it stands and whatever stands behind it.
func TestOpenRecords(t *testing.T) {
	good := record(0, page0(12, [4]int64{1}, 1, 2, 3))
	with := func(change func(b []byte) []byte) []byte { return record(0, change(page0(12, [4]int64{}, 1))) }
	for _, c := range []struct {
		what string
		r    []byte
	}{
		{"no bytes", nil},
		{"a number that ends early", []byte{129}},
		{"a number in two bytes that needs one", []byte{129, 0}},
		{"a page beyond the last", record(12, nil)},
		{"a page far beyond the last", record(1<<20, nil)},
		{"a page of 2^64 - 1", append(bytes.Repeat([]byte{255}, 9), 1)},
		{"a page of 2^32 and 1", record(1<<32+1, nil)},
		{"too many bytes", record(1, some(449, 1))},
		{"a page 0 of no bytes", record(0, nil)},
		{"a page 0 with a byte less", with(func(b []byte) []byte { return b[1:] })},
		{"a page 0 with a byte more", with(func(b []byte) []byte { return append(b, 0) })},
		{"a page 0 that is free", with(func(b []byte) []byte { b[0] &^= 1; return b })},
		{"a page 0 with the page 12", with(func(b []byte) []byte { b[1] |= 1 << 4; return b })},
		{"a page 0 with the page 15", with(func(b []byte) []byte { b[1] |= 1 << 7; return b })},
	} {
		for _, commits := range [][][][]byte{
			{list(c.r)},
			{list(good, c.r)},
			{list(c.r, good)},
			{list(good, record(3, nil)), list(c.r)},
			{list(c.r), list(good, record(3, nil))},
		} {
			wantOpenError(t, c.what, withLog(t, 20, 12, commits...), 8, api.ErrDamage)
		}
	}
	d := withLog(t, 20, 12, list(good, record(3, nil), record(11, some(448, 1))))
	wantView(t, "good ones", open(t, d, 8), view{map[int]string{1: "one", 2: string(some(300, 2)), 3: ""}, [4]int64{1}})
}

// P7.1: Open tells the last of what the commits have, in whatever order, and brings it to the sectors, and nothing else; the log is begun anew.
func TestOpenReplays(t *testing.T) {
	words := [4]int64{1, -2, math.MaxInt64, math.MinInt64}
	last := page0(12, words, 1, 3, 9)
	d := withLog(t, 30, 12,
		list(record(0, page0(12, [4]int64{5}, 1, 2, 3, 4)), record(3, some(448, 1)), record(4, []byte("four"))),
		list(record(1, []byte("twice")), record(1, some(113, 3))),
		list(),
		list(record(9, some(224, 5)), record(0, last), record(3, nil)))
	free := look(d)
	p := open(t, d, 8)
	w := view{map[int]string{1: string(some(113, 3)), 3: "", 9: string(some(224, 5))}, words}
	wantCounts(t, "replayed", p, 12, 8, 0, false)
	for page, b := range map[int][]byte{0: last, 1: some(113, 3), 3: nil, 9: some(224, 5)} {
		wantSectors(t, "replayed", d, 2+30+4*page, sectorsOf(page, b)...)
	}
	for _, page := range []int{2, 4, 5, 11} {
		for i := range 4 {
			at := 2 + 30 + 4*page + i
			wantSectors(t, "pages that are free", d, at, free.sectors[at].s)
		}
	}
	wantFlushed(t, "replayed", d)
	wantLogged(t, "replayed", d, 2)
	wantView(t, "replayed", p, w)
	wantReopened(t, "replayed", d, w)
}

// P7.1: a page 0 that is not as it was written, in each of its four sectors; with the page 0 in the log it does not matter.
func TestOpenDamagedBase(t *testing.T) {
	right := sectorsOf(0, page0(700, [4]int64{7, -8, 9}, 1, 2))
	for i := range 4 {
		at := 2 + 9 + i
		turned := right[i]
		turned[12] ^= 16
		for what, change := range map[string]func(d *disk.Disk){
			"zeros":            func(d *disk.Disk) { lay(t, d, at, api.Sector{}) },
			"torn":             func(d *disk.Disk) { tear(t, d, at) },
			"a bit is turned":  func(d *disk.Disk) { lay(t, d, at, turned) },
			"another kind":     func(d *disk.Disk) { lay(t, d, at, written(3, int64(i), right[i][10:10+right[i][1]])) },
			"another number":   func(d *disk.Disk) { lay(t, d, at, written(4, int64(i+4), right[i][10:10+right[i][1]])) },
			"another's sector": func(d *disk.Disk) { lay(t, d, at, right[(i+1)%4]) },
		} {
			d := withLog(t, 9, 700)
			change(d)
			wantOpenError(t, what, d, 8, api.ErrDamage)
			d = withLog(t, 9, 700, list(record(2, []byte("two"))))
			change(d)
			wantOpenError(t, what, d, 8, api.ErrDamage)
			d = withLog(t, 9, 700, list(record(0, page0(700, [4]int64{1}, 1))))
			change(d)
			wantView(t, what, open(t, d, 8), view{map[int]string{1: "one"}, [4]int64{1}})
			wantSectors(t, what, d, 2+9, sectorsOf(0, page0(700, [4]int64{1}, 1))...)
		}
	}
}

// P7.1: a page 0 in good frames whose bytes are none of a page 0.
func TestOpenWrongBase(t *testing.T) {
	b := page0(700, [4]int64{7}, 1, 2)
	free := bytes.Clone(b)
	free[0] &^= 1
	beyond := bytes.Clone(b)
	beyond[87] |= 1 << 4
	last := bytes.Clone(b)
	last[87] |= 1 << 3
	spread := []api.Sector{written(4, 0, b[:60]), written(4, 1, b[60:]), written(4, 2, nil), written(4, 3, nil)}
	gap := []api.Sector{written(4, 0, b[:112]), written(4, 1, nil), written(4, 2, b[112:]), written(4, 3, nil)}
	for what, l := range map[string][]api.Sector{
		"no bytes":       sectorsOf(0, nil),
		"a byte less":    sectorsOf(0, b[:119]),
		"a byte more":    sectorsOf(0, append(bytes.Clone(b), 0)),
		"full":           sectorsOf(0, some(448, 1)),
		"free itself":    sectorsOf(0, free),
		"the page 700":   sectorsOf(0, beyond),
		"pieces spread":  spread,
		"a gap in there": gap,
	} {
		d := withLog(t, 9, 700)
		lay(t, d, 2+9, l...)
		wantOpenError(t, what, d, 8, api.ErrDamage)
	}
	d := withLog(t, 9, 700)
	lay(t, d, 2+9, sectorsOf(0, last)...)
	if p := open(t, d, 8); p.Left() != 699-3 {
		t.Errorf("%d left", p.Left())
	}
}

// P7.1, P7.5: at whichever call of Open the power goes, whatever is kept and torn, it answers ErrDown, and opened again all is there.
func TestCrashesOfOpen(t *testing.T) {
	inLog, _ := filled(t, 9, 3, "one")
	laid := formatted(t, 9, 3)
	for i, d := range []*disk.Disk{inLog, laid} {
		w := []view{texts("one"), texts()}[i]
		counting := d.Clone()
		open(t, counting, 8)
		for fuse := 1; fuse <= int(counting.Calls()-d.Calls()); fuse++ {
			c := d.Clone()
			want(t, "SetFuse", c.SetFuse(fuse), api.OK)
			if p, e := Open(c, 8); p != nil || e != api.ErrDown {
				t.Fatalf("the power goes at the call %d: %v, %d", fuse, p != nil, e)
			}
			everyWay(t, c, func(way string, c *disk.Disk) { wantReopened(t, way, c, w) })
		}
	}
}

// P7.1, P6: a log in its last epoch is opened and tells what was committed; it takes no more, and nothing is lost by asking it to.
func TestOpenLastEpoch(t *testing.T) {
	d := withLog(t, 9, 3)
	lay(t, d, 0, headOf(1<<40, 9, 3))
	lay(t, d, 2, framed(1<<40, 0, record(1, []byte("new")))...)
	w := view{map[int]string{1: "new", 2: string(some(300, 2))}, [4]int64{7, -8, 9}}
	p := wantReopened(t, "the last epoch", d, w)
	before := look(d)
	want(t, "Checkpoint", p.Checkpoint(), api.ErrFull)
	want(t, "Commit of nothing", p.Commit(), api.OK)
	set(t, p, 1, []byte("newer"))
	if e := p.Commit(); e == api.OK {
		t.Error("Commit: OK")
	}
	wantCounts(t, "the last epoch", p, 3, 0, 1, false)
	wantGet(t, p, 1, "newer", api.OK)
	want(t, "Abort", p.Abort(), api.OK)
	wantView(t, "the last epoch", p, w)
	wantSame(t, "the last epoch", d, before)
}

// P7.3, P7.7: when the log has come to its last epoch it takes commits until it is full; what would begin it anew is refused, and changes nothing.
func TestLastEpochIsFull(t *testing.T) {
	d := withLog(t, 2, 3)
	lay(t, d, 1, headOf(1<<40-1, 2, 3))
	p := open(t, d, 8)
	for i := range 2 {
		set(t, p, 1, some(30+i, 1))
		want(t, "Commit", p.Commit(), api.OK)
	}
	before := look(d)
	want(t, "Checkpoint", p.Checkpoint(), api.ErrFull)
	set(t, p, 1, some(40, 1))
	want(t, "Commit", p.Commit(), api.ErrFull)
	wantCounts(t, "full", p, 3, 0, 1, false)
	wantSame(t, "full", d, before)
	want(t, "Abort", p.Abort(), api.OK)
	wantReopened(t, "full", d, view{map[int]string{1: string(some(31, 1)), 2: string(some(300, 2))}, [4]int64{7, -8, 9}})
}

// P7.5: where the newest head was lost, and with it what the log had, what is committed from then on lasts: no commit of the lost epoch comes back.
func TestLostHead(t *testing.T) {
	for at := range 2 {
		for deeds := range 4 {
			d, p := settled(t, 8, 4, "a")
			for range at {
				want(t, "Checkpoint", p.Checkpoint(), api.OK)
			}
			for i := range 5 {
				set(t, p, 1, some(20+i, 3))
				want(t, "Commit", p.Commit(), api.OK)
			}
			lay(t, d, 1-at, api.Sector{})
			p = wantReopened(t, "the newest head is lost", d, texts("a"))
			w := texts("a")
			for i := range deeds {
				w = texts(string(some(10+i, 4)))
				set(t, p, 1, some(10+i, 4))
				want(t, "Commit", p.Commit(), api.OK)
			}
			wantReopened(t, "behind it", d, w)
		}
	}
}

// P7.1, P7.5: the power goes at each call of Open where the newest head was lost; what is told then is told from then on.
func TestCrashesOfOpenWithLostHead(t *testing.T) {
	laid, p := settled(t, 5, 2, "a")
	for i := range 3 {
		set(t, p, 1, some(20+i, 3))
		want(t, "Commit", p.Commit(), api.OK)
	}
	lay(t, laid, 1, api.Sector{})
	for fuse := 1; fuse <= 6; fuse++ {
		d := laid.Clone()
		want(t, "SetFuse", d.SetFuse(fuse), api.OK)
		if _, e := Open(d, 8); e != api.ErrDown {
			t.Fatalf("the power goes at the call %d: Open: %d", fuse, e)
		}
		everyWay(t, d, func(way string, d *disk.Disk) {
			p := open(t, d, 8)
			set(t, p, 1, []byte("b"))
			want(t, "Commit", p.Commit(), api.OK)
			wantReopened(t, way, d, texts("b"))
		})
	}
}

// spoilt is a disk with pages in the log and in their sectors, of which some sectors were written over: with scribbles, with other frames, with each other.
func spoilt(t *testing.T, r *rand.Rand) *disk.Disk {
	t.Helper()
	d, p := settled(t, 8, 6, "a", string(some(300, 1)), "c")
	for range r.Intn(4) {
		set(t, p, 1+r.Intn(3), some(r.Intn(200), 7))
		want(t, "Commit", p.Commit(), api.OK)
	}
	for range 1 + r.Intn(3) {
		at, kind := r.Intn(d.Sectors()), byte(1+r.Intn(5))
		n, pay := int64(r.Intn(24)), some(r.Intn(113), byte(r.Intn(256)))
		switch r.Intn(6) {
		case 0:
			turn(t, d, at, r.Intn(1024), r.Uint32())
		case 1:
			other, _ := d.Read(r.Intn(d.Sectors()))
			lay(t, d, at, other)
		case 2:
			lay(t, d, at, written(kind, n, pay))
		case 3:
			lay(t, d, 10+int(n), written(4, n, pay))
		case 4:
			lay(t, d, 2, framed(3, 0, record(r.Intn(7), some(r.Intn(460), 1)), record(0, some(r.Intn(2)*32+1, 1)))[:1]...)
		case 5:
			lay(t, d, 2, framed(3, 0, record(0, page0(6, [4]int64{r.Int63()}, 1+r.Intn(6))))...)
		}
	}
	return d
}

// P7.1, P1, P6: whatever stands in the sectors, Open has one of its errors, or gives pages that can be worked with; no call panics.
func TestAnySectors(t *testing.T) {
	r := rand.New(rand.NewSource(11))
	found := map[api.Errno]int{}
	for range 4000 {
		d := spoilt(t, r)
		p, e := Open(d, 8)
		found[e]++
		if e == api.ErrLog || e == api.ErrDamage {
			continue
		}
		want(t, "Open", e, api.OK)
		for page := range 8 {
			if _, e := p.Get(page); e != api.OK && e != api.ErrNone && e != api.ErrDamage {
				t.Fatalf("Get(%d): %d", page, e)
			}
			p.Set(page, []byte("new"))
		}
		p.Alloc()
		want(t, "SetWord", p.SetWord(0, 5), api.OK)
		want(t, "Commit", p.Commit(), api.OK)
		wantReopened(t, "worked with", d, viewOf(t, "worked with", p))
	}
	if found[api.OK] < 500 || found[api.ErrDamage] < 500 {
		t.Errorf("found %v", found)
	}
}
