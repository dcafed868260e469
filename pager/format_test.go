package pager

import (
	"math"
	"testing"

	"ramble/api"
	"ramble/disk"
	"ramble/wal"
)

// P7.1: the chapter's example.
func TestExample(t *testing.T) {
	_, p := opened(t, 20, 16)
	alloc(t, p, 1)
	set(t, p, 1, []byte("a"))
	want(t, "Commit", p.Commit(), api.OK)
	alloc(t, p, 2)
	want(t, "Abort", p.Abort(), api.OK)
	alloc(t, p, 2)
}

// P7.1: how many slots and pages there may be, and how many sectors they need.
func TestFormatArgs(t *testing.T) {
	for _, c := range []struct {
		sectors, slots, pages int
		e                     api.Errno
	}{
		{11, 1, 2, api.OK},
		{10, 1, 2, api.ErrArg},
		{12, 1, 2, api.OK},
		{12, 2, 2, api.OK},
		{100, 0, 2, api.ErrArg},
		{100, -1, 2, api.ErrArg},
		{100, 1, 1, api.ErrArg},
		{100, 1, 0, api.ErrArg},
		{100, 1, -1, api.ErrArg},
		{2 + 20 + 64, 20, 16, api.OK},
		{2 + 20 + 63, 20, 16, api.ErrArg},
		{api.MaxSectors, api.MaxSlots, api.MaxPages, api.OK},
		{2 + api.MaxSlots + 4*api.MaxPages, api.MaxSlots, api.MaxPages, api.OK},
		{1 + api.MaxSlots + 4*api.MaxPages, api.MaxSlots, api.MaxPages, api.ErrArg},
		{api.MaxSectors, api.MaxSlots + 1, 2, api.ErrArg},
		{api.MaxSectors, 1, api.MaxPages + 1, api.ErrArg},
		{100, math.MaxInt, 2, api.ErrArg},
		{100, math.MinInt, 2, api.ErrArg},
		{100, 1, math.MaxInt, api.ErrArg},
		{100, 1, math.MinInt, api.ErrArg},
		{100, 1, 1 << 62, api.ErrArg},
		{100, 1, 1<<62 + 2, api.ErrArg},
		{100, math.MaxInt - 1, math.MaxInt, api.ErrArg},
	} {
		d := fresh(t, c.sectors)
		before := look(d)
		if e := Format(d, c.slots, c.pages); e != c.e {
			t.Fatalf("Format of %+v: %d", c, e)
		}
		if c.e != api.OK {
			wantSame(t, "refused", d, before)
			continue
		}
		p := open(t, d, api.MinPool)
		wantCounts(t, "laid", p, c.pages, c.pages-1, 0, false)
		wantView(t, "laid", p, texts())
	}
}

// P7.1, R1: which error comes first where several apply.
func TestFormatErrorsInOrder(t *testing.T) {
	for _, d := range []*disk.Disk{nil, {}} {
		want(t, "no disk", Format(d, 1, 2), api.ErrMade)
		want(t, "no disk, and no slots", Format(d, 0, 0), api.ErrMade)
	}
	d := fresh(t, 11)
	want(t, "Crash", d.Crash(-1), api.OK)
	want(t, "down, and no slots", Format(d, 0, 2), api.ErrArg)
	want(t, "down, and too few sectors", Format(d, 1, 3), api.ErrArg)
	want(t, "down", Format(d, 1, 2), api.ErrDown)
	want(t, "Start", d.Start(-1), api.OK)
	want(t, "up again", Format(d, 1, 2), api.OK)
}

// wantLaid holds what stands on a disk behind Format, byte by byte.
func wantLaid(t *testing.T, d *disk.Disk, slots, pages int) {
	t.Helper()
	wantSectors(t, "heads", d, 0, api.Sector{}, headOf(1, slots, pages))
	for slot := range slots {
		wantSectors(t, "slots", d, 2+slot, api.Sector{})
	}
	wantSectors(t, "the page 0", d, 2+slots, sectorsOf(0, page0(pages, [4]int64{}))...)
	for page := 1; page < pages; page++ {
		wantSectors(t, "pages", d, 2+slots+4*page, sectorsOf(page, nil)...)
	}
	wantFlushed(t, "Format", d)
	wantLogged(t, "Format", d, 1)
}

// P7.1: what stands in the sectors behind Format, on a disk of zeros and on one of scribbles; what is behind the pages is left.
func TestFormatBytes(t *testing.T) {
	for _, c := range [][2]int{{1, 2}, {3, 7}, {3, 8}, {5, 9}, {2, 16}, {4, 17}, {130, 700}} {
		slots, pages := c[0], c[1]
		sectors := 2 + slots + 4*pages
		d := fresh(t, sectors)
		want(t, "Format", Format(d, slots, pages), api.OK)
		wantLaid(t, d, slots, pages)
		d = scribbled(t, sectors+3)
		want(t, "Format", Format(d, slots, pages), api.OK)
		wantLaid(t, d, slots, pages)
		for at := sectors; at < sectors+3; at++ {
			wantSectors(t, "behind", d, at, api.Sector(some(api.SectorLen, byte(at))))
		}
	}
}

// P7.1, P7.5: laid over others, with commits in their log and in their sectors, all pages are free and all words 0; and what the old log had never comes back, whatever epoch the new one comes to.
func TestFormatOverOthers(t *testing.T) {
	for resets := range 4 {
		d, p := filled(t, 6, 8, "a", "b")
		for range resets {
			set(t, p, 1, some(100, 1))
			want(t, "SetWord", p.SetWord(1, 5), api.OK)
			want(t, "Commit", p.Commit(), api.OK)
			want(t, "Checkpoint", p.Checkpoint(), api.OK)
		}
		for i := range 3 {
			set(t, p, 1, some(50+i, 2))
			want(t, "Commit", p.Commit(), api.OK)
		}
		want(t, "Format", Format(d, 6, 8), api.OK)
		wantLaid(t, d, 6, 8)
		for range 6 {
			p = wantReopened(t, "laid anew", d, texts())
		}
		alloc(t, p, 1)
		want(t, "Commit", p.Commit(), api.OK)
		wantReopened(t, "laid anew", d, texts(""))
	}
}

// P7.1: laid over a log that is none of pages, also one of the first epoch, nothing of that is told.
func TestFormatOverALog(t *testing.T) {
	for resets := range 3 {
		d := fresh(t, 2+6+4*4)
		l, e := wal.Format(d, 6, []byte("another one's note"))
		want(t, "wal.Format", e, api.OK)
		for range resets {
			want(t, "Reset", l.Reset(), api.OK)
		}
		for range 6 {
			want(t, "Append", l.Append(record(1, []byte("x")), nil), api.OK)
		}
		want(t, "Format", Format(d, 6, 4), api.OK)
		for range 4 {
			wantReopened(t, "laid over a log", d, texts())
		}
	}
}

// P7.1: at whichever call of Format the power goes, whatever is kept and torn, Open has an error, or tells pages that are all free; laid over others perhaps what these were. Laid again they are there.
func TestCrashesOfFormat(t *testing.T) {
	zeros, scribbles := fresh(t, 12), scribbled(t, 12)
	inLog, _ := filled(t, 2, 2, "a")
	inSectors, _ := settled(t, 2, 2, "a")
	later, p := settled(t, 2, 2, "a")
	want(t, "Checkpoint", p.Checkpoint(), api.OK)
	inBoth, p := settled(t, 2, 2, "b")
	set(t, p, 1, []byte("a"))
	want(t, "Commit", p.Commit(), api.OK)
	for i, d := range []*disk.Disk{zeros, scribbles, inLog, inSectors, later, inBoth} {
		old := texts("a")
		if i < 2 {
			old = texts()
		}
		counting := d.Clone()
		want(t, "Format", Format(counting, 2, 2), api.OK)
		for fuse := 1; fuse <= int(counting.Calls()-d.Calls()); fuse++ {
			c := d.Clone()
			want(t, "SetFuse", c.SetFuse(fuse), api.OK)
			want(t, "Format", Format(c, 2, 2), api.ErrDown)
			everyWay(t, c, func(way string, c *disk.Disk) {
				if p, e := Open(c, api.MinPool); e == api.OK {
					if got := viewOf(t, way, p).text(); got != texts().text() && got != old.text() {
						t.Fatalf("disk %d, the power goes at the call %d, %s: %s", i, fuse, way, got)
					}
				} else if e != api.ErrLog {
					t.Fatalf("disk %d, the power goes at the call %d, %s: Open: %d", i, fuse, way, e)
				}
				want(t, "Format", Format(c, 2, 2), api.OK)
				wantView(t, "laid again", open(t, c, api.MinPool), texts())
			})
		}
	}
}
