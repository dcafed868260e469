package pager

import (
	"ramble/api"
	"ramble/disk"
	"ramble/num"
	"ramble/sector"
)

const (
	heads    = 2 // sectors of the log that are ahead of its slots
	parts    = api.PageLen / api.MaxPay
	pageKind = 4
	minPages = 2
)

// layout says where on a disk what stands: the log with its slots, and behind them the pages.
type layout struct{ slots, pages int }

// mayBe tells whether d has room for what the layout says.
func (l layout) mayBe(d *disk.Disk) bool {
	return l.slots >= 1 && l.slots <= api.MaxSlots &&
		l.pages >= minPages && l.pages <= api.MaxPages &&
		l.sectorOf(l.pages) <= d.Sectors()
}

// sectorOf is the first one of a page's sectors.
func (l layout) sectorOf(page int) int { return heads + l.slots + parts*page }

// note is what the log keeps of the layout, beside its slots.
func (l layout) note() []byte { return num.Put(nil, uint64(l.pages)) }

// layoutOf is the layout on d of a log with so many slots and that note; false, if there is none such.
func layoutOf(d *disk.Disk, slots int, note []byte) (layout, bool) {
	pages, length, e := num.Take(note)
	if e != api.OK || length != len(note) || pages > api.MaxPages {
		return layout{}, false
	}
	l := layout{slots: slots, pages: int(pages)}
	if !l.mayBe(d) {
		return layout{}, false
	}
	return l, true
}

// writePage writes a page to its sectors; it stays there from the next flush on.
func (l layout) writePage(d *disk.Disk, page int, b []byte) api.Errno {
	pieces := sector.Cut(b)
	for i := range parts {
		f := api.Frame{Kind: pageKind, N: int64(parts*page + i)}
		if i < len(pieces) {
			f.Pay = pieces[i]
		}
		if e := sector.Put(d, l.sectorOf(page)+i, f); e != api.OK {
			return e
		}
	}
	return api.OK
}

// readPage is what stands in a page's sectors.
func (l layout) readPage(d *disk.Disk, page int) ([]byte, api.Errno) {
	var pieces [parts][]byte
	for i := range pieces {
		piece, e := sector.Get(d, l.sectorOf(page)+i, pageKind, int64(parts*page+i))
		if e != api.OK {
			return nil, damageOr(e)
		}
		if len(piece) > 0 && i > 0 && len(pieces[i-1]) < api.MaxPay {
			return nil, api.ErrDamage
		}
		pieces[i] = piece
	}
	return sector.Join(pieces[:]...), api.OK
}

// damageOr is the answer where a sector was not read with e: that it is damaged, unless it is not known what it has.
func damageOr(e api.Errno) api.Errno {
	if e == api.ErrDown {
		return e
	}
	return api.ErrDamage
}
