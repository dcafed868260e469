package pager

import (
	"fmt"
	"testing"

	"ramble/api"
	"ramble/disk"
)

// P7.3: what stands in the log behind commits, byte by byte; the pages' sectors are left until Checkpoint.
func TestCommitBytes(t *testing.T) {
	d, p := opened(t, 20, 12)
	laid := look(d)
	alloc(t, p, 1)
	alloc(t, p, 2)
	set(t, p, 2, some(150, 2))
	want(t, "SetWord", p.SetWord(3, -2), api.OK)
	want(t, "Commit", p.Commit(), api.OK)
	words := [4]int64{0, 0, 0, -2}
	first := list(record(0, page0(12, words, 1, 2)), record(1, nil), record(2, some(150, 2)))
	wantSectors(t, "the first commit", d, 2, framed(2, 0, first...)...)
	set(t, p, 1, []byte("one"))
	want(t, "Commit", p.Commit(), api.OK)
	second := list(record(1, []byte("one")))
	wantSectors(t, "a page alone", d, 4, framed(2, 2, second...)...)
	want(t, "Free", p.Free(1), api.OK)
	want(t, "Commit", p.Commit(), api.OK)
	third := list(record(0, page0(12, words, 2)))
	wantSectors(t, "a page freed", d, 5, framed(2, 3, third...)...)
	want(t, "SetWord", p.SetWord(0, 256), api.OK)
	want(t, "Commit", p.Commit(), api.OK)
	words[0] = 256
	fourth := list(record(0, page0(12, words, 2)))
	wantSectors(t, "a word alone", d, 6, framed(2, 4, fourth...)...)
	wantLogged(t, "Commit", d, 2, first, second, third, fourth)
	wantFlushed(t, "Commit", d)
	for at := 7; at < d.Sectors(); at++ {
		wantSectors(t, "what is left", d, at, laid.sectors[at].s)
	}
	wantReopened(t, "committed", d, view{map[int]string{2: string(some(150, 2))}, words})
}

// P7.3: pages stand in a commit rising, whatever the order in which they were staged.
func TestCommitRises(t *testing.T) {
	d, p := settled(t, 20, 150, "1", "2", "3", "4", "5", "6", "7", "8")
	for _, page := range []int{7, 3, 8, 1} {
		set(t, p, page, []byte{byte(page)})
	}
	alloc(t, p, 9)
	want(t, "Commit", p.Commit(), api.OK)
	wantLogged(t, "Commit", d, 3, list(
		record(0, page0(150, [4]int64{}, 1, 2, 3, 4, 5, 6, 7, 8, 9)),
		record(1, []byte{1}), record(3, []byte{3}), record(7, []byte{7}), record(8, []byte{8}), record(9, nil)))
}

// P7.3: with nothing staged Commit is OK and asks nothing of the disk: also behind Abort, and where a word was set back to what it was.
func TestCommitOfNothing(t *testing.T) {
	for what, do := range map[string]func(p *Pager){
		"nothing":                func(p *Pager) {},
		"a word as it was":       func(p *Pager) { p.SetWord(2, 0) },
		"a word set back":        func(p *Pager) { p.SetWord(1, 5); p.SetWord(1, 0) },
		"what was asked":         func(p *Pager) { p.Get(1); p.Get(2); p.Word(1) },
		"what was aborted":       func(p *Pager) { p.Alloc(); p.Set(1, nil); p.SetWord(1, 5); p.Abort() },
		"one freed, and aborted": func(p *Pager) { p.Free(1); p.Abort() },
		"what was refused":       func(p *Pager) { p.Set(5, nil); p.Free(0); p.Set(1, some(449, 1)); p.SetWord(4, 1) },
		"what was committed":     func(p *Pager) { p.Commit() },
		"what was checkpointed":  func(p *Pager) { p.Checkpoint() },
	} {
		d, p := filled(t, 20, 12, "a", "b")
		do(p)
		before := look(d)
		want(t, "SetFuse", d.SetFuse(1), api.OK)
		want(t, what, p.Commit(), api.OK)
		wantSame(t, what, d, before)
		wantView(t, what, p, texts("a", "b"))
	}
}

// wordBack changes a word, and changes it back.
func wordBack(p *Pager) { p.SetWord(0, 1); p.SetWord(0, 0) }

// P7.3: where a page was made and freed, or a word was changed and changed back, the page 0 stands ahead of the pages, as it was; a word alone that was changed back makes no commit.
func TestCommitOfPage0(t *testing.T) {
	same := record(0, page0(12, [4]int64{}, 1, 2))
	for what, c := range map[string]struct {
		do      func(p *Pager)
		records [][]byte
	}{
		"made and freed":              {func(p *Pager) { p.Alloc(); p.Free(3) }, list(same)},
		"made, freed, and set":        {func(p *Pager) { p.Alloc(); p.Free(3); p.Set(1, nil) }, list(same, record(1, nil))},
		"freed and made":              {func(p *Pager) { p.Free(1); p.Alloc() }, list(same, record(1, nil))},
		"set alone":                   {func(p *Pager) { p.Set(2, []byte("b")) }, list(record(2, []byte("b")))},
		"set, and a word back":        {func(p *Pager) { p.Set(2, nil); wordBack(p) }, list(same, record(2, nil))},
		"a word back, and set":        {func(p *Pager) { wordBack(p); p.Set(2, nil); p.Set(1, nil) }, list(same, record(1, nil), record(2, nil))},
		"a word back, in between":     {func(p *Pager) { p.SetWord(3, -1); p.Set(1, nil); p.SetWord(3, 0) }, list(same, record(1, nil))},
		"a word back, made and freed": {func(p *Pager) { wordBack(p); p.Alloc(); p.Free(3) }, list(same)},
		"set, and a word as it was":   {func(p *Pager) { p.Set(2, nil); p.SetWord(0, 0); p.SetWord(3, 0) }, list(record(2, nil))},
		"set, and no such word":       {func(p *Pager) { p.Set(2, nil); p.SetWord(4, 1); p.SetWord(-1, 1) }, list(record(2, nil))},
		"set, and freed":              {func(p *Pager) { p.Set(2, nil); p.Free(2) }, list(record(0, page0(12, [4]int64{}, 1)))},
		"a word":                      {func(p *Pager) { p.SetWord(0, 1) }, list(record(0, page0(12, [4]int64{1}, 1, 2)))},
		"a word, and another back":    {func(p *Pager) { p.SetWord(1, 1); wordBack(p) }, list(record(0, page0(12, [4]int64{0, 1}, 1, 2)))},
		"made, behind an abort":       {func(p *Pager) { p.Alloc(); p.Abort(); p.Set(1, nil) }, list(record(1, nil))},
		"a word, behind an abort":     {func(p *Pager) { p.SetWord(0, 1); p.Abort(); p.Set(1, nil) }, list(record(1, nil))},
		"a word back, and an abort":   {func(p *Pager) { wordBack(p); p.Abort(); p.Set(1, nil) }, list(record(1, nil))},
		"a word back, and a commit":   {func(p *Pager) { wordBack(p); p.Commit(); p.Set(1, nil) }, list(record(1, nil))},
	} {
		d, p := settled(t, 20, 12, "a", "b")
		c.do(p)
		w := viewOf(t, what, p)
		want(t, what, p.Commit(), api.OK)
		wantLogged(t, what, d, 3, c.records)
		wantCounts(t, what, p, 12, p.Left(), 0, false)
		wantReopened(t, what, d, w)
	}
}

// P7.3: behind a commit in which a word changed, or was changed back, no word has changed: the next one is without the page 0; a Checkpoint between is no Commit.
func TestCommitBehindWords(t *testing.T) {
	d, p := settled(t, 20, 12, "a", "b")
	same, one := record(0, page0(12, [4]int64{}, 1, 2)), record(0, page0(12, [4]int64{1}, 1, 2))
	var commits [][][]byte
	commit := func(what string, records ...[]byte) {
		t.Helper()
		want(t, what, p.Commit(), api.OK)
		commits = append(commits, records)
		wantLogged(t, what, d, 3, commits...)
	}
	wordBack(p)
	set(t, p, 1, []byte("c"))
	commit("a word back", same, record(1, []byte("c")))
	set(t, p, 1, []byte("d"))
	commit("behind a word back", record(1, []byte("d")))
	want(t, "SetWord", p.SetWord(0, 1), api.OK)
	commit("a word", one)
	want(t, "SetWord", p.SetWord(0, 1), api.OK)
	set(t, p, 1, []byte("e"))
	commit("a word as it was committed", record(1, []byte("e")))
	want(t, "SetWord", p.SetWord(0, 0), api.OK)
	want(t, "SetWord", p.SetWord(0, 1), api.OK)
	want(t, "Checkpoint", p.Checkpoint(), api.OK)
	set(t, p, 2, []byte("f"))
	want(t, "Commit", p.Commit(), api.OK)
	wantLogged(t, "behind a Checkpoint", d, 4, list(one, record(2, []byte("f"))))
	wantReopened(t, "words", d, view{texts("e", "f").pages, [4]int64{1}})
}

// fits is a length of the page 1's bytes with which a commit of it takes just so many frames; one more takes one frame more.
func fits(frames int) int {
	if frames == 1 {
		return 112 - 3
	}
	return 112*frames - 4
}

// P7.3: a commit of just as many frames as the log has slots is taken; of one more it is refused, and all stays staged, on the disk and in memory.
func TestCommitFull(t *testing.T) {
	for slots := 1; slots <= 3; slots++ {
		for _, ahead := range []int{0, 1} {
			d, p := settled(t, slots, 4, "a")
			for range ahead {
				set(t, p, 1, []byte("b"))
				want(t, "Commit", p.Commit(), api.OK)
			}
			before := look(d)
			set(t, p, 1, some(fits(slots)+1, 1))
			for range 2 {
				want(t, "one more", p.Commit(), api.ErrFull)
				wantCounts(t, "refused", p, 4, 2, 1, false)
				wantGet(t, p, 1, string(some(fits(slots)+1, 1)), api.OK)
			}
			wantSame(t, "refused", d, before)
			set(t, p, 1, some(fits(slots), 1))
			want(t, "SetWord", p.SetWord(0, 5), api.OK)
			want(t, "a word more", p.Commit(), api.ErrFull)
			wantSame(t, "refused", d, before)
			want(t, "SetWord", p.SetWord(0, 0), api.OK)
			for range 2 {
				want(t, "a word back", p.Commit(), api.ErrFull)
				wantCounts(t, "a word back", p, 4, 2, 1, false)
				wantGet(t, p, 1, string(some(fits(slots), 1)), api.OK)
			}
			wantSame(t, "refused", d, before)
			want(t, "Abort", p.Abort(), api.OK)
			set(t, p, 1, some(fits(slots), 1))
			want(t, "just as many", p.Commit(), api.OK)
			wantCounts(t, "taken", p, 4, 2, 0, false)
			wantReopened(t, "taken", d, texts(string(some(fits(slots), 1))))
		}
	}
}

// P7.3: behind a commit that was refused Abort forgets all of it, and what fits is taken again.
func TestAbortBehindFull(t *testing.T) {
	d, p := settled(t, 2, 6, "a", "b")
	alloc(t, p, 3)
	set(t, p, 3, some(448, 3))
	want(t, "Free", p.Free(1), api.OK)
	want(t, "SetWord", p.SetWord(2, 9), api.OK)
	want(t, "Commit", p.Commit(), api.ErrFull)
	want(t, "Abort", p.Abort(), api.OK)
	wantCounts(t, "Abort", p, 6, 3, 0, false)
	wantView(t, "Abort", p, texts("a", "b"))
	want(t, "Commit", p.Commit(), api.OK)
	alloc(t, p, 3)
	want(t, "Commit", p.Commit(), api.OK)
	wantReopened(t, "taken", d, texts("a", "b", ""))
}

// P7.3: a commit of more frames than the log has left is taken behind a Checkpoint of what was committed ahead of it.
func TestCommitBehindCheckpoint(t *testing.T) {
	d, p := settled(t, 3, 4, "a", "b")
	set(t, p, 1, some(fits(2), 1))
	want(t, "Commit", p.Commit(), api.OK)
	set(t, p, 1, some(fits(1), 2))
	want(t, "Commit of all that is left", p.Commit(), api.OK)
	wantLogged(t, "full", d, 3, list(record(1, some(fits(2), 1))), list(record(1, some(fits(1), 2))))
	wantSectors(t, "not written yet", d, 2+3+4, sectorsOf(1, []byte("a"))...)
	set(t, p, 2, []byte("B"))
	want(t, "Commit of more", p.Commit(), api.OK)
	wantLogged(t, "begun anew", d, 4, list(record(2, []byte("B"))))
	wantSectors(t, "written", d, 2+3+4, sectorsOf(1, some(fits(1), 2))...)
	wantSectors(t, "not written yet", d, 2+3+8, sectorsOf(2, []byte("b"))...)
	wantFlushed(t, "Commit", d)
	w := texts(string(some(fits(1), 2)), "B")
	wantView(t, "behind", p, w)
	wantReopened(t, "behind", d, w)
}

// P7.3: what is staged is not written by Checkpoint, nor forgotten; it may be aborted, or committed, behind it.
func TestCheckpointLeavesStaged(t *testing.T) {
	for _, commits := range []bool{true, false} {
		d, p := filled(t, 20, 12, "a", "b", "c")
		set(t, p, 1, []byte("A"))
		want(t, "Free", p.Free(2), api.OK)
		alloc(t, p, 2)
		want(t, "Free", p.Free(3), api.OK)
		want(t, "SetWord", p.SetWord(1, 6), api.OK)
		staged := view{map[int]string{1: "A", 2: ""}, [4]int64{0, 6}}
		want(t, "Checkpoint", p.Checkpoint(), api.OK)
		wantCounts(t, "Checkpoint", p, 12, 9, 2, false)
		wantView(t, "staged", p, staged)
		wantSectors(t, "Checkpoint", d, 2+20, sectorsOf(0, page0(12, [4]int64{}, 1, 2, 3))...)
		for page, s := range []string{1: "a", 2: "b", 3: "c"} {
			if page > 0 {
				wantSectors(t, "Checkpoint", d, 2+20+4*page, sectorsOf(page, []byte(s))...)
			}
		}
		if commits {
			want(t, "Commit", p.Commit(), api.OK)
			wantReopened(t, "Commit", d, staged)
			continue
		}
		want(t, "Abort", p.Abort(), api.OK)
		wantView(t, "Abort", p, texts("a", "b", "c"))
		wantReopened(t, "Abort", d, texts("a", "b", "c"))
	}
}

// P7.3: Checkpoint writes all that was committed to its sectors, and begins the log anew; with nothing committed it does that alone.
func TestCheckpoint(t *testing.T) {
	d, p := opened(t, 40, 12)
	laid := look(d)
	want(t, "Checkpoint of nothing", p.Checkpoint(), api.OK)
	wantLogged(t, "Checkpoint of nothing", d, 3)
	for at := 2; at < d.Sectors(); at++ {
		wantSectors(t, "Checkpoint of nothing", d, at, laid.sectors[at].s)
	}
	for page := 1; page <= 5; page++ {
		alloc(t, p, page)
		set(t, p, page, some(100*page-60, byte(page)))
	}
	want(t, "SetWord", p.SetWord(3, 1<<40), api.OK)
	want(t, "Commit", p.Commit(), api.OK)
	want(t, "Free", p.Free(2), api.OK)
	set(t, p, 4, []byte("four"))
	want(t, "Commit", p.Commit(), api.OK)
	want(t, "Checkpoint", p.Checkpoint(), api.OK)
	wantLogged(t, "Checkpoint", d, 4)
	wantFlushed(t, "Checkpoint", d)
	wantSectors(t, "the page 0", d, 42, sectorsOf(0, page0(12, [4]int64{3: 1 << 40}, 1, 3, 4, 5))...)
	w := view{map[int]string{1: string(some(40, 1)), 3: string(some(240, 3)), 4: "four", 5: string(some(440, 5))}, [4]int64{3: 1 << 40}}
	for page, s := range w.pages {
		wantSectors(t, "pages", d, 42+4*page, sectorsOf(page, []byte(s))...)
	}
	for _, page := range []int{2, 6, 7, 8, 9, 10, 11} {
		wantSectors(t, "pages that are free", d, 42+4*page, sectorsOf(page, nil)...)
	}
	wantView(t, "Checkpoint", p, w)
	wantReopened(t, "Checkpoint", d, w)
	want(t, "Checkpoint again", p.Checkpoint(), api.OK)
	wantReopened(t, "Checkpoint again", d, w)
}

// P7.3: Abort of each kind of change, of several at once and again; behind it Commit has nothing to do.
func TestAbort(t *testing.T) {
	words := view{texts("a", "b", "c").pages, [4]int64{0, 4}}
	for what, do := range map[string]func(p *Pager){
		"nothing":         func(p *Pager) {},
		"made":            func(p *Pager) { p.Alloc() },
		"made and set":    func(p *Pager) { p.Alloc(); p.Set(4, []byte("d")) },
		"made and freed":  func(p *Pager) { p.Alloc(); p.Free(4) },
		"set":             func(p *Pager) { p.Set(2, []byte("B")); p.Set(2, []byte("BB")) },
		"freed":           func(p *Pager) { p.Free(1) },
		"set and freed":   func(p *Pager) { p.Set(1, nil); p.Free(1) },
		"freed and made":  func(p *Pager) { p.Free(1); p.Alloc(); p.Set(1, []byte("A")) },
		"a word":          func(p *Pager) { p.SetWord(1, 5) },
		"all":             func(p *Pager) { p.Free(3); p.Set(1, nil); p.Alloc(); p.Alloc(); p.SetWord(0, 1) },
		"behind a commit": func(p *Pager) { p.Commit(); p.Set(1, nil) },
	} {
		for _, inLog := range []bool{true, false} {
			d, p := filled(t, 20, 12, "a", "b", "c")
			want(t, "SetWord", p.SetWord(1, 4), api.OK)
			want(t, "Commit", p.Commit(), api.OK)
			if !inLog {
				want(t, "Checkpoint", p.Checkpoint(), api.OK)
			}
			before := look(d)
			do(p)
			want(t, what, p.Abort(), api.OK)
			wantCounts(t, what, p, 12, 8, 0, false)
			wantView(t, what, p, words)
			want(t, what, p.Abort(), api.OK)
			want(t, what, p.Commit(), api.OK)
			wantSame(t, what, d, before)
			wantReopened(t, what, d, words)
		}
	}
}

// P7.3: at whichever call of Commit or Checkpoint the power goes, the pager is broken from then on, also when the power is back, and leaves the disk alone.
func TestBroken(t *testing.T) {
	for what, do := range map[string]func(p *Pager) api.Errno{
		"Commit":                     func(p *Pager) api.Errno { p.Set(1, some(200, 1)); return p.Commit() },
		"Commit behind a Checkpoint": func(p *Pager) api.Errno { p.Set(1, some(448, 1)); return p.Commit() },
		"Checkpoint":                 (*Pager).Checkpoint,
		"Checkpoint, with staged":    func(p *Pager) api.Errno { p.Set(1, some(200, 1)); return p.Checkpoint() },
	} {
		d, p := filled(t, 5, 8, "a", "b")
		before := d.Calls()
		want(t, what, do(p), api.OK)
		for fuse := 1; fuse <= int(d.Calls()-before); fuse++ {
			d, p := filled(t, 5, 8, "a", "b")
			want(t, "SetFuse", d.SetFuse(fuse), api.OK)
			want(t, what, do(p), api.ErrDown)
			way := fmt.Sprint(what, ", the power goes at the call ", fuse)
			wantBroken(t, way, p)
			want(t, "Start", d.Start(-1, true), api.OK)
			before := look(d)
			wantBroken(t, way+", up again", p)
			wantSame(t, way, d, before)
			open(t, d, 8)
			wantBroken(t, way+", opened", p)
		}
	}
}

// P7.3, R1: without power a commit that the log has no room for is refused for that, and nothing is broken by it; nor by a commit of nothing.
func TestCommitErrorsInOrder(t *testing.T) {
	d, p := filled(t, 2, 8, "a", "b")
	want(t, "Crash", d.Crash(-1), api.OK)
	want(t, "nothing", p.Commit(), api.OK)
	set(t, p, 1, some(300, 1))
	want(t, "no room", p.Commit(), api.ErrFull)
	wantCounts(t, "no room", p, 8, 5, 1, false)
	want(t, "Abort", p.Abort(), api.OK)
	set(t, p, 2, nil)
	want(t, "room", p.Commit(), api.ErrDown)
	wantBroken(t, "room", p)
	d, p = filled(t, 2, 8, "a", "b")
	want(t, "Crash", d.Crash(-1), api.OK)
	want(t, "Checkpoint", p.Checkpoint(), api.ErrDown)
	wantBroken(t, "Checkpoint", p)
}

// P7.5: a crash between two calls changes nothing: what was committed is flushed, and the pager goes on.
func TestCrashBetweenCalls(t *testing.T) {
	crash := func(d *disk.Disk) {
		want(t, "Crash", d.Crash(0, true, false), api.OK)
		want(t, "Start", d.Start(0, true), api.OK)
	}
	d, p := filled(t, 9, 12, "a", "b")
	crash(d)
	set(t, p, 1, some(300, 1))
	crash(d)
	want(t, "Commit", p.Commit(), api.OK)
	crash(d)
	wantView(t, "Commit", p, texts(string(some(300, 1)), "b"))
	want(t, "Checkpoint", p.Checkpoint(), api.OK)
	crash(d)
	wantView(t, "Checkpoint", p, texts(string(some(300, 1)), "b"))
	wantReopened(t, "Checkpoint", d, texts(string(some(300, 1)), "b"))
}
