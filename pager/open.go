package pager

import (
	"maps"
	"slices"

	"ramble/api"
	"ramble/disk"
	"ramble/num"
	"ramble/sector"
	"ramble/wal"
)

// Open opens the pages of a disk, as they were committed last. What the log has is written to the pages' sectors, and the log begun anew, since it takes no commit until then.
func Open(d *disk.Disk, pool int) (*Pager, api.Errno) {
	switch {
	case !madeDisk(d):
		return nil, api.ErrMade
	case d.Down():
		return nil, api.ErrDown
	case pool < api.MinPool || pool > api.MaxPool:
		return nil, api.ErrArg
	}
	log, note, commits, e := wal.Open(d)
	if e != api.OK {
		return nil, e
	}
	l, is := layoutOf(d, log.Slots(), note)
	if !is {
		return nil, api.ErrDamage
	}
	last, are := lastPages(l.pages, commits)
	if !are {
		return nil, api.ErrDamage
	}
	was, e := readBase(d, l, last)
	if e != api.OK {
		return nil, e
	}
	p := &Pager{disk: d, log: log, layout: l, was: was, now: was, pool: newPool(pool), logged: map[int]spot{}}
	if e := p.eraseLater(); e != api.OK {
		return nil, e
	}
	if e := p.replay(last); e != api.OK {
		return nil, e
	}
	return p, api.OK
}

// lastPages is of each page that commits have its bytes in the last one of these; false, if a record is no page's.
func lastPages(pages int, commits [][][]byte) (map[int][]byte, bool) {
	last := map[int][]byte{}
	for _, records := range commits {
		for _, r := range records {
			page, b, is := pageOf(r, pages)
			if !is {
				return nil, false
			}
			last[page] = b
		}
	}
	return last, true
}

// pageOf is the page that a record is, and its bytes; false, if it is none of so many pages.
func pageOf(record []byte, pages int) (int, []byte, bool) {
	page, length, e := num.Take(record)
	if e != api.OK || page >= uint64(pages) {
		return 0, nil, false
	}
	b := record[length:]
	if len(b) > api.PageLen {
		return 0, nil, false
	}
	if page == 0 {
		if _, is := baseOf(b, pages); !is {
			return 0, nil, false
		}
	}
	return int(page), b, true
}

// readBase is what the page 0 has: by the log, or, if the log does not have it, by its sectors.
func readBase(d *disk.Disk, l layout, last map[int][]byte) (base, api.Errno) {
	b, is := last[0]
	if !is {
		var e api.Errno
		if b, e = l.readPage(d, 0); e != api.OK {
			return base{}, e
		}
	}
	was, is := baseOf(b, l.pages)
	if !is {
		return base{}, api.ErrDamage
	}
	return was, api.OK
}

// eraseLater empties the slots that have frames of a later epoch. No crash leaves such, but the loss of the newest head does: when the log came to that epoch again, it would take them for commits.
func (p *Pager) eraseLater() api.Errno {
	erased := false
	for slot := range p.layout.slots {
		if !p.isLater(slot) {
			continue
		}
		if e := p.disk.Write(heads+slot, api.Sector{}); e != api.OK {
			return e
		}
		erased = true
	}
	if !erased {
		return api.OK
	}
	return p.disk.Flush()
}

// isLater tells whether a slot has a frame of a later epoch than the log's.
func (p *Pager) isLater(slot int) bool {
	s, e := p.disk.Read(heads + slot)
	if e != api.OK {
		return false
	}
	f, e := sector.Open(s)
	return e == api.OK && f.N/epochStep > p.log.Epoch()
}

// replay brings what the log had to the pages' sectors; of pages that were freed since, nothing is wanted any more.
func (p *Pager) replay(last map[int][]byte) api.Errno {
	var pages []int
	for _, page := range slices.Sorted(maps.Keys(last)) {
		if p.was.has(page) {
			pages = append(pages, page)
		}
	}
	e := p.settle(pages, func(page int) ([]byte, api.Errno) { return last[page], api.OK })
	// A log in its last epoch is not begun anew. It takes no commit any more, but what was committed is there.
	if e == api.ErrFull {
		return api.OK
	}
	return e
}
