package pager

import (
	"encoding/binary"
	"fmt"
	"hash/crc32"
	"maps"
	"reflect"
	"slices"
	"testing"

	"ramble/api"
	"ramble/disk"
	"ramble/wal"
)

// some is so many bytes, none of them 0, that differ by seed.
func some(length int, seed byte) []byte {
	b := make([]byte, length)
	for i := range b {
		b[i] = byte(i)*31 + seed | 1
	}
	return b
}

// written is a sector as chapter 5 writes a frame, reckoned by the library's means.
func written(kind byte, n int64, pay []byte) api.Sector {
	s := api.Sector{kind, byte(len(pay))}
	binary.BigEndian.PutUint64(s[2:10], uint64(n))
	copy(s[10:122], pay)
	binary.LittleEndian.PutUint32(s[124:], crc32.ChecksumIEEE(s[:124]))
	return s
}

// headOf is a sector with a head of a log, as chapter 6 writes it.
func headOf(epoch int64, slots, pages int) api.Sector {
	return written(1, epoch, binary.AppendUvarint(binary.AppendUvarint(nil, uint64(slots)), uint64(pages)))
}

// sectorsOf is the four sectors of a page with these bytes.
func sectorsOf(page int, b []byte) []api.Sector {
	var l []api.Sector
	for i := range 4 {
		pay := b[min(len(b), 112*i):min(len(b), 112*(i+1))]
		l = append(l, written(4, int64(4*page+i), pay))
	}
	return l
}

// page0 is the bytes of the page 0 where there are so many pages and those that are told are not free.
func page0(pages int, words [4]int64, taken ...int) []byte {
	b := make([]byte, (pages+7)/8)
	for _, page := range append(taken, 0) {
		b[page/8] |= 1 << (page % 8)
	}
	for _, n := range words {
		b = binary.BigEndian.AppendUint64(b, uint64(n))
	}
	return b
}

// record is a page as the log has it.
func record(page int, b []byte) []byte {
	return append(binary.AppendUvarint(nil, uint64(page)), b...)
}

// framed is the sectors of a commit of these records from a slot on, as chapter 6 writes them.
func framed(epoch int64, slot int, records ...[]byte) []api.Sector {
	b := laid(records...)
	var l []api.Sector
	for ; len(b) > 112; b = b[112:] {
		l = append(l, written(2, epoch<<16+int64(slot+len(l)), b[:112]))
	}
	return append(l, written(3, epoch<<16+int64(slot+len(l)), b))
}

// laid is the bytes of a commit.
func laid(records ...[]byte) []byte {
	b := binary.AppendUvarint(nil, uint64(len(records)))
	for _, r := range records {
		b = append(binary.AppendUvarint(b, uint64(len(r))), r...)
	}
	return b
}

// fresh is a disk of so many sectors of zeros.
func fresh(t testing.TB, sectors int) *disk.Disk {
	t.Helper()
	d, e := disk.New(sectors)
	want(t, "New", e, api.OK)
	return d
}

// scribbled is a disk of so many sectors in which nothing is of zeros, nor a frame.
func scribbled(t testing.TB, sectors int) *disk.Disk {
	t.Helper()
	d := fresh(t, sectors)
	for at := range sectors {
		lay(t, d, at, api.Sector(some(api.SectorLen, byte(at))))
	}
	return d
}

// lay writes sectors, one behind the other, and flushes them.
func lay(t testing.TB, d *disk.Disk, at int, l ...api.Sector) {
	t.Helper()
	for i, s := range l {
		want(t, "Write", d.Write(at+i, s), api.OK)
	}
	want(t, "Flush", d.Flush(), api.OK)
}

// tear makes a sector of d torn.
func tear(t testing.TB, d *disk.Disk, at int) {
	t.Helper()
	want(t, "Write", d.Write(at, api.Sector{}), api.OK)
	want(t, "Crash", d.Crash(0, true), api.OK)
	want(t, "Start", d.Start(-1), api.OK)
}

// formatted is a disk with just the sectors that so many slots and pages need, and these laid on it.
func formatted(t testing.TB, slots, pages int) *disk.Disk {
	t.Helper()
	d := fresh(t, 2+slots+4*pages)
	want(t, "Format", Format(d, slots, pages), api.OK)
	return d
}

// open is Open of pages that are there.
func open(t testing.TB, d *disk.Disk, pool int) *Pager {
	t.Helper()
	p, e := Open(d, pool)
	want(t, "Open", e, api.OK)
	return p
}

// opened is pages that were laid and opened, with a pool of MinPool.
func opened(t testing.TB, slots, pages int) (*disk.Disk, *Pager) {
	t.Helper()
	d := formatted(t, slots, pages)
	return d, open(t, d, api.MinPool)
}

// filled is pages of which the first ones have these texts, committed, in the log and in memory.
func filled(t testing.TB, slots, pages int, texts ...string) (*disk.Disk, *Pager) {
	t.Helper()
	d, p := opened(t, slots, pages)
	for i, s := range texts {
		alloc(t, p, i+1)
		set(t, p, i+1, []byte(s))
	}
	want(t, "Commit", p.Commit(), api.OK)
	return d, p
}

// settled is filled, but in the pages' sectors alone, and not in memory.
func settled(t testing.TB, slots, pages int, texts ...string) (*disk.Disk, *Pager) {
	t.Helper()
	d, _ := filled(t, slots, pages, texts...)
	return d, open(t, d, api.MinPool)
}

func alloc(t testing.TB, p *Pager, page int) {
	t.Helper()
	if got, e := p.Alloc(); got != page || e != api.OK {
		t.Fatalf("Alloc: %d, %d; want %d", got, e, page)
	}
}

func set(t testing.TB, p *Pager, page int, b []byte) {
	t.Helper()
	if e := p.Set(page, b); e != api.OK {
		t.Fatalf("Set(%d, %d bytes): %d", page, len(b), e)
	}
}

func want(t testing.TB, what string, got, e api.Errno) {
	t.Helper()
	if got != e {
		t.Fatalf("%s: got %d, want %d", what, got, e)
	}
}

// wantGet holds what Get answers of a page; with an error nothing beside it.
func wantGet(t testing.TB, p *Pager, page int, b string, e api.Errno) {
	t.Helper()
	if got, g := p.Get(page); string(got) != b || g != e || g != api.OK && got != nil {
		t.Fatalf("Get(%d): %q, %d; want %q, %d", page, got, g, b, e)
	}
}

func wantWord(t testing.TB, p *Pager, i int, n int64, e api.Errno) {
	t.Helper()
	if got, g := p.Word(i); got != n || g != e {
		t.Fatalf("Word(%d): %d, %d; want %d, %d", i, got, g, n, e)
	}
}

// wantCounts holds what a pager tells of itself.
func wantCounts(t testing.TB, what string, p *Pager, pages, left, staged int, broken bool) {
	t.Helper()
	if p.Pages() != pages || p.Left() != left || p.Staged() != staged || p.Broken() != broken {
		t.Fatalf("%s: %d pages, %d left, %d staged, broken %v; want %d, %d, %d, %v",
			what, p.Pages(), p.Left(), p.Staged(), p.Broken(), pages, left, staged, broken)
	}
	wantHeld(t, what, p)
}

// wantHeld holds that no more pages are in memory than may be, and no fewer than must be.
func wantHeld(t testing.TB, what string, p *Pager) {
	t.Helper()
	if p.Held() > p.Pool() || p.Held() < p.Staged() {
		t.Fatalf("%s: %d held, %d staged, a pool of %d", what, p.Held(), p.Staged(), p.Pool())
	}
}

// answer is what Read answers of one sector.
type answer struct {
	s api.Sector
	e api.Errno
}

// image is all that can be found out about a disk, but the fuse.
type image struct {
	sectors []answer
	dirty   []int
	calls   int64
	down    bool
}

func look(d *disk.Disk) image {
	m := image{calls: d.Calls(), dirty: append([]int{}, d.Dirty()...), down: d.Down()}
	for at := range d.Sectors() {
		s, e := d.Read(at)
		m.sectors = append(m.sectors, answer{s, e})
	}
	return m
}

// wantSame holds that a disk is as it was.
func wantSame(t testing.TB, what string, d *disk.Disk, before image) {
	t.Helper()
	if !reflect.DeepEqual(look(d), before) {
		t.Fatalf("%s: the disk has changed", what)
	}
}

// wantSectors holds the sectors of a disk from at on, byte by byte, against those that should stand there.
func wantSectors(t testing.TB, what string, d *disk.Disk, at int, l ...api.Sector) {
	t.Helper()
	for i, s := range l {
		if got, e := d.Read(at + i); e != api.OK || got != s {
			t.Fatalf("%s, sector %d: got %v, %d; want %v", what, at+i, got, e, s)
		}
	}
}

// wantFlushed holds that nothing waits to be flushed, so that no crash between two calls changes anything.
func wantFlushed(t testing.TB, what string, d *disk.Disk) {
	t.Helper()
	if dirty := d.Dirty(); len(dirty) > 0 {
		t.Fatalf("%s: dirty %v", what, dirty)
	}
}

// wantLogged holds which commits stand in the log.
func wantLogged(t testing.TB, what string, d *disk.Disk, epoch int64, commits ...[][]byte) {
	t.Helper()
	l, _, got, e := wal.Open(d)
	want(t, what, e, api.OK)
	if l.Epoch() != epoch || fmt.Sprintf("%q", got) != fmt.Sprintf("%q", commits) {
		t.Fatalf("%s: the log is in the epoch %d and has %q; want %d, %q", what, l.Epoch(), got, epoch, commits)
	}
}

// list is records.
func list(records ...[]byte) [][]byte { return records }

// view is what is told of pages: the bytes of each that is not free, and the words.
type view struct {
	pages map[int]string
	words [4]int64
}

// text is the same for a nil map and an empty one.
func (v view) text() string {
	s := fmt.Sprint(v.words)
	for _, page := range slices.Sorted(maps.Keys(v.pages)) {
		s += fmt.Sprintf(" %d: %q", page, v.pages[page])
	}
	return s
}

// viewOf asks a pager for all that it has.
func viewOf(t testing.TB, what string, p *Pager) view {
	t.Helper()
	v := view{pages: map[int]string{}}
	for page := range p.Pages() {
		b, e := p.Get(page)
		if e == api.OK {
			v.pages[page] = string(b)
		} else if e != api.ErrNone {
			t.Fatalf("%s: Get(%d): %d", what, page, e)
		}
		wantHeld(t, what, p)
	}
	for i := range v.words {
		n, e := p.Word(i)
		want(t, what, e, api.OK)
		v.words[i] = n
	}
	if p.Left() != p.Pages()-1-len(v.pages) {
		t.Fatalf("%s: %d left, of %d pages %d are not free", what, p.Left(), p.Pages(), len(v.pages))
	}
	return v
}

// wantView holds all that a pager has against what it should.
func wantView(t testing.TB, what string, p *Pager, w view) {
	t.Helper()
	if got := viewOf(t, what, p); got.text() != w.text() {
		t.Fatalf("%s: got %s, want %s", what, got.text(), w.text())
	}
}

// texts is a view of the pages from 1 on, with words that are 0.
func texts(l ...string) view {
	v := view{pages: map[int]string{}}
	for i, s := range l {
		v.pages[i+1] = s
	}
	return v
}

// wantReopened opens a disk, twice, and holds what is told.
func wantReopened(t testing.TB, what string, d *disk.Disk, w view) *Pager {
	t.Helper()
	wantView(t, what+", opened", open(t, d, api.MinPool), w)
	p := open(t, d, api.MinPool)
	wantView(t, what+", opened again", p, w)
	wantCounts(t, what, p, p.Pages(), p.Left(), 0, false)
	return p
}

// wantOpenError holds that Open refuses a disk, and leaves it as it is.
func wantOpenError(t testing.TB, what string, d *disk.Disk, pool int, e api.Errno) {
	t.Helper()
	before := look(d)
	p, got := Open(d, pool)
	if p != nil || got != e {
		t.Fatalf("%s: Open: %v, %d; want %d", what, p != nil, got, e)
	}
	wantSame(t, what, d, before)
}
