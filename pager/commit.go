package pager

import (
	"maps"
	"slices"

	"ramble/api"
	"ramble/num"
	"ramble/wal"
)

// lastEpoch is the epoch behind which no log is begun anew.
const lastEpoch = 1 << 40

// Commit makes all that is staged stay.
func (p *Pager) Commit() api.Errno {
	if e := p.ready(); e != api.OK {
		return e
	}
	if !p.isStaged() {
		// A word that was changed back, ahead of this Commit, is nothing to the next one.
		p.reworded = false
		return api.OK
	}
	pages, records := p.staged()
	frames := wal.Frames(records...)
	if frames > p.log.Slots() {
		return api.ErrFull
	}
	if frames > p.log.Slots()-p.log.Used() {
		if e := p.Checkpoint(); e != api.OK {
			return e
		}
	}
	slot := p.log.Used()
	if e := p.log.Append(records...); e != api.OK {
		return p.noted(e)
	}
	p.settleStaged(pages, spots(slot, pages, records))
	return api.OK
}

// isStaged tells whether anything is staged. A word that was changed back is not, though with it the page 0 goes along with all that is.
func (p *Pager) isStaged() bool {
	return p.moved || p.now.words != p.was.words || len(p.pool.staged) > 0
}

// staged is the pages of which a commit would consist, rising, each with its record.
func (p *Pager) staged() ([]int, [][]byte) {
	var pages []int
	var records [][]byte
	if p.moved || p.reworded {
		pages = append(pages, 0)
		records = append(records, recordOf(0, p.now.bytes(p.layout.pages)))
	}
	for _, page := range p.pool.stagedPages() {
		pages = append(pages, page)
		records = append(records, recordOf(page, p.pool.staged[page].bytes()))
	}
	return pages, records
}

// recordOf is a page as the log gets it.
func recordOf(page int, b []byte) []byte { return append(num.Put(nil, uint64(page)), b...) }

// settleStaged makes what was staged, and is in the log now, what was committed.
func (p *Pager) settleStaged(pages []int, at []spot) {
	for i, page := range pages {
		p.logged[page] = at[i]
	}
	// Of pages that were freed, nothing is wanted any more.
	for page := range p.logged {
		if !p.now.has(page) {
			delete(p.logged, page)
		}
	}
	p.was = p.now
	p.moved, p.reworded = false, false
	p.pool.settle()
}

// Abort forgets all that is staged.
func (p *Pager) Abort() api.Errno {
	if e := p.ready(); e != api.OK {
		return e
	}
	p.now = p.was
	p.moved, p.reworded = false, false
	p.pool.forget()
	return api.OK
}

// Checkpoint writes all that was committed to its sectors, and begins the log anew.
func (p *Pager) Checkpoint() api.Errno {
	if e := p.ready(); e != api.OK {
		return e
	}
	if p.log.Epoch() == lastEpoch {
		return api.ErrFull
	}
	pages := slices.Sorted(maps.Keys(p.logged))
	// All of them are looked at ahead of the first write, so that with damage in the log nothing changes; one by one, since they may be more than the pool has room for.
	for _, page := range pages {
		if _, e := p.committed(page); e != api.OK {
			return p.noted(e)
		}
	}
	if e := p.settle(pages, p.committed); e != api.OK {
		return p.noted(e)
	}
	clear(p.logged)
	return api.OK
}

// settle writes pages to their sectors, and, when they stay there, begins the log anew: until then it has them too.
func (p *Pager) settle(pages []int, bytesOf func(page int) ([]byte, api.Errno)) api.Errno {
	for _, page := range pages {
		b, e := bytesOf(page)
		if e != api.OK {
			return e
		}
		if e := p.layout.writePage(p.disk, page, b); e != api.OK {
			return e
		}
	}
	if len(pages) > 0 {
		if e := p.disk.Flush(); e != api.OK {
			return e
		}
	}
	return p.log.Reset()
}

// committed is what a page has that was committed: what is staged does not count.
func (p *Pager) committed(page int) ([]byte, api.Errno) {
	if page == 0 {
		return p.was.bytes(p.layout.pages), api.OK
	}
	if s, is := p.pool.kept[page]; is {
		return s.bytes(), api.OK
	}
	if s, is := p.logged[page]; is {
		return p.readLogged(s)
	}
	return p.layout.readPage(p.disk, page)
}
