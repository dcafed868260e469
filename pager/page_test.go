package pager

import (
	"math"
	"testing"

	"ramble/api"
)

// P7.2: Alloc makes the least page that is free, up to the last one, and none more; it has no bytes.
func TestAllocAll(t *testing.T) {
	for _, pages := range []int{2, 8, 9, 16, 17, 100} {
		d := formatted(t, 30, pages)
		p := open(t, d, 128)
		w := texts()
		for page := 1; page < pages; page++ {
			if p.Left() != pages-page {
				t.Fatalf("%d left", p.Left())
			}
			alloc(t, p, page)
			wantGet(t, p, page, "", api.OK)
			w.pages[page] = ""
		}
		if page, e := p.Alloc(); page != 0 || e != api.ErrFull {
			t.Fatalf("of %d pages: %d, %d", pages, page, e)
		}
		wantCounts(t, "all", p, pages, 0, pages-1, false)
		want(t, "Commit", p.Commit(), api.OK)
		if page, e := p.Alloc(); page != 0 || e != api.ErrFull {
			t.Fatalf("of %d pages: %d, %d", pages, page, e)
		}
		wantReopened(t, "all", d, w)
	}
}

// P7.2: of pages that were freed the least one is made first; what it had is gone, also if it had not been committed.
func TestAllocLeast(t *testing.T) {
	_, p := filled(t, 20, 12, "a", "b", "c", "d", "e")
	for _, page := range []int{4, 2, 5} {
		want(t, "Free", p.Free(page), api.OK)
	}
	alloc(t, p, 2)
	wantGet(t, p, 2, "", api.OK)
	set(t, p, 2, []byte("B"))
	want(t, "Free", p.Free(2), api.OK)
	alloc(t, p, 2)
	wantGet(t, p, 2, "", api.OK)
	alloc(t, p, 4)
	alloc(t, p, 5)
	alloc(t, p, 6)
	want(t, "Commit", p.Commit(), api.OK)
	wantView(t, "made anew", p, texts("a", "", "c", "", "", ""))
}

// P7.2, R1: Alloc is refused if as many pages as the pool has are staged; ErrFull comes ahead of that.
func TestAllocPool(t *testing.T) {
	_, p := opened(t, 20, 10)
	for page := 1; page <= 8; page++ {
		alloc(t, p, page)
	}
	for range 2 {
		if page, e := p.Alloc(); page != 0 || e != api.ErrPool {
			t.Fatalf("Alloc: %d, %d", page, e)
		}
	}
	wantCounts(t, "a full pool", p, 10, 1, 8, false)
	want(t, "Free", p.Free(3), api.OK)
	alloc(t, p, 3)
	want(t, "Commit", p.Commit(), api.OK)
	alloc(t, p, 9)
	for page := 1; page <= 7; page++ {
		set(t, p, page, []byte("x"))
	}
	if page, e := p.Alloc(); page != 0 || e != api.ErrFull {
		t.Fatalf("no page free, and a full pool: %d, %d", page, e)
	}
	want(t, "Abort", p.Abort(), api.OK)
	alloc(t, p, 9)
}

// nowhere is numbers that no page of so many has that may be asked for.
func nowhere(pages int) []int {
	return []int{0, -1, -8, pages, pages + 1, pages + 8, api.MaxPages, api.MaxPages + 1, 1 << 32, 1<<32 + 1, math.MaxInt, math.MinInt}
}

// P7.2: Get, Set and Free of the page 0, of one that is free, of one that there is not; ErrNone comes ahead of ErrLong and ErrPool.
func TestNoSuchPage(t *testing.T) {
	_, p := filled(t, 20, 12, "a", "b", "c")
	want(t, "Free", p.Free(2), api.OK)
	for range 3 {
		for _, page := range append(nowhere(12), 2, 4, 11) {
			wantGet(t, p, page, "", api.ErrNone)
			want(t, "Free", p.Free(page), api.ErrNone)
			want(t, "Set", p.Set(page, nil), api.ErrNone)
			want(t, "Set", p.Set(page, some(449, 1)), api.ErrNone)
		}
		want(t, "Commit", p.Commit(), api.OK)
	}
	wantView(t, "refused", p, view{map[int]string{1: "a", 3: "c"}, [4]int64{}})
	_, most := opened(t, 1, api.MaxPages)
	for _, page := range append(nowhere(api.MaxPages), 1, api.MaxPages-1) {
		wantGet(t, most, page, "", api.ErrNone)
		want(t, "Free", most.Free(page), api.ErrNone)
		want(t, "Set", most.Set(page, nil), api.ErrNone)
	}
	_, full := opened(t, 20, 12)
	for page := 1; page <= 8; page++ {
		alloc(t, full, page)
	}
	want(t, "a full pool", full.Set(9, nil), api.ErrNone)
	want(t, "a full pool", full.Set(0, some(449, 1)), api.ErrNone)
}

// P7.2: a page has the bytes that it was given, none, PageLen, and not one more; those that were given last.
func TestSetLengths(t *testing.T) {
	for _, length := range []int{0, 1, 111, 112, 113, 223, 224, 225, 336, 337, 447, 448} {
		d, p := filled(t, 20, 4, "a")
		set(t, p, 1, some(length, 9))
		want(t, "one more", p.Set(1, some(449, 1)), api.ErrLong)
		want(t, "many more", p.Set(1, some(5000, 1)), api.ErrLong)
		w := texts(string(some(length, 9)))
		wantView(t, "staged", p, w)
		want(t, "Commit", p.Commit(), api.OK)
		wantView(t, "committed", p, w)
		p = wantReopened(t, "opened", d, w)
		set(t, p, 1, []byte("first"))
		set(t, p, 1, []byte("last"))
		wantView(t, "the last one", p, texts("last"))
	}
}

// P7.2, R1: in a full pool only what is staged may be set; ErrLong comes ahead of ErrPool.
func TestSetPool(t *testing.T) {
	_, p := filled(t, 30, 20, "1", "2", "3", "4", "5", "6", "7", "8")
	alloc(t, p, 9)
	for page := 2; page <= 8; page++ {
		set(t, p, page, []byte("new"))
	}
	for range 2 {
		want(t, "not staged", p.Set(1, []byte("new")), api.ErrPool)
		want(t, "not staged, and too long", p.Set(1, some(449, 1)), api.ErrLong)
		wantGet(t, p, 1, "1", api.OK)
		wantCounts(t, "a full pool", p, 20, 10, 8, false)
	}
	set(t, p, 9, []byte("nine"))
	set(t, p, 2, []byte("two"))
	want(t, "Free", p.Free(5), api.OK)
	set(t, p, 1, []byte("one"))
	want(t, "not staged", p.Free(5), api.ErrNone)
	w := texts("one", "two", "new", "new", "", "new", "new", "new", "nine")
	delete(w.pages, 5)
	wantView(t, "staged", p, w)
	want(t, "Commit", p.Commit(), api.OK)
	wantView(t, "committed", p, w)
}

// P7.2: a page that is freed is staged no more, whether it was made or set; one that was only committed is not counted either.
func TestFreeStaged(t *testing.T) {
	_, p := filled(t, 20, 12, "a", "b", "c")
	alloc(t, p, 4)
	set(t, p, 1, []byte("A"))
	wantCounts(t, "staged", p, 12, 7, 2, false)
	want(t, "Free of one that was made", p.Free(4), api.OK)
	wantCounts(t, "freed", p, 12, 8, 1, false)
	want(t, "Free of one that was set", p.Free(1), api.OK)
	wantCounts(t, "freed", p, 12, 9, 0, false)
	want(t, "Free of one that was committed", p.Free(2), api.OK)
	wantCounts(t, "freed", p, 12, 10, 0, false)
	want(t, "Abort", p.Abort(), api.OK)
	wantCounts(t, "Abort", p, 12, 8, 0, false)
	wantView(t, "Abort", p, texts("a", "b", "c"))
}

// P7.2: words from 0 to MaxWords less 1, with any number, and no others.
func TestWords(t *testing.T) {
	d, p := opened(t, 20, 4)
	all := [4]int64{math.MinInt64, -1, 1<<56 + 2, math.MaxInt64}
	for i, n := range all {
		wantWord(t, p, i, 0, api.OK)
		want(t, "SetWord", p.SetWord(i, n), api.OK)
		wantWord(t, p, i, n, api.OK)
	}
	for _, i := range []int{-1, 4, 5, -4, 1 << 32, math.MinInt, math.MaxInt} {
		wantWord(t, p, i, 0, api.ErrArg)
		want(t, "SetWord", p.SetWord(i, 5), api.ErrArg)
	}
	wantView(t, "staged", p, view{words: all})
	wantCounts(t, "words are no pages", p, 4, 3, 0, false)
	want(t, "Abort", p.Abort(), api.OK)
	wantView(t, "Abort", p, texts())
	for i, n := range all {
		want(t, "SetWord", p.SetWord(i, n), api.OK)
	}
	want(t, "Commit", p.Commit(), api.OK)
	want(t, "SetWord", p.SetWord(2, 0), api.OK)
	wantWord(t, p, 2, 0, api.OK)
	want(t, "Abort", p.Abort(), api.OK)
	wantView(t, "Abort", p, view{words: all})
	wantReopened(t, "committed", d, view{words: all})
}

// P7.2: while the power is away what is in memory is told; what must be read is the disk's error, and then nothing is told any more.
func TestGetWithoutPower(t *testing.T) {
	for _, inLog := range []bool{true, false} {
		d, p := settled(t, 20, 20, "1", "2", "3")
		wantGet(t, p, 1, "1", api.OK)
		if inLog {
			set(t, p, 2, []byte("two"))
			want(t, "Commit", p.Commit(), api.OK)
			set(t, p, 2, []byte("three"))
			want(t, "Abort", p.Abort(), api.OK)
		}
		want(t, "Crash", d.Crash(-1), api.OK)
		wantGet(t, p, 1, "1", api.OK)
		wantGet(t, p, 11, "", api.ErrNone)
		wantCounts(t, "down", p, 20, 16, 0, false)
		wantGet(t, p, 2, "", api.ErrDown)
		wantBroken(t, "down", p)
		want(t, "Start", d.Start(-1), api.OK)
		wantBroken(t, "up again", p)
	}
}

// wantBroken holds that a pager answers ErrBroken to all, and still tells how many there are.
func wantBroken(t *testing.T, what string, p *Pager) {
	t.Helper()
	pages, left, staged, held, pool := p.Pages(), p.Left(), p.Staged(), p.Held(), p.Pool()
	if page, e := p.Alloc(); page != 0 || e != api.ErrBroken {
		t.Fatalf("%s: Alloc: %d, %d", what, page, e)
	}
	for _, i := range []int{-1, 0, 1, 2, 5000} {
		wantGet(t, p, i, "", api.ErrBroken)
		wantWord(t, p, i, 0, api.ErrBroken)
		want(t, what+": Set", p.Set(i, []byte("x")), api.ErrBroken)
		want(t, what+": Set", p.Set(i, some(449, 1)), api.ErrBroken)
		want(t, what+": Free", p.Free(i), api.ErrBroken)
		want(t, what+": SetWord", p.SetWord(i, 1), api.ErrBroken)
	}
	want(t, what+": Commit", p.Commit(), api.ErrBroken)
	want(t, what+": Abort", p.Abort(), api.ErrBroken)
	want(t, what+": Checkpoint", p.Checkpoint(), api.ErrBroken)
	wantCounts(t, what, p, pages, left, staged, true)
	if p.Held() != held || p.Pool() != pool {
		t.Fatalf("%s: %d held, a pool of %d; want %d, %d", what, p.Held(), p.Pool(), held, pool)
	}
}
