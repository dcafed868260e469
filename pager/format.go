package pager

import (
	"ramble/api"
	"ramble/disk"
	"ramble/wal"
)

// madeDisk tells whether a call made the disk: each that one made has a sector at least.
func madeDisk(d *disk.Disk) bool { return d.Sectors() > 0 }

// Format lays pages on a disk that are all free, and words that are all 0.
func Format(d *disk.Disk, slots, pages int) api.Errno {
	if !madeDisk(d) {
		return api.ErrMade
	}
	l := layout{slots: slots, pages: pages}
	if !l.mayBe(d) {
		return api.ErrArg
	}
	if e := eraseHeads(d); e != api.OK {
		return e
	}
	if e := l.writeEmpty(d); e != api.OK {
		return e
	}
	_, e := wal.Format(d, slots, l.note())
	return e
}

// eraseHeads makes what stood on the disk no log, ahead of all else: where the power goes in the midst of Format there is what was, or nothing, or what should be. The head that does not hold goes first, since without the other one it would hold again.
func eraseHeads(d *disk.Disk) api.Errno {
	holds := 0
	if l, _, _, e := wal.Open(d); e == api.OK {
		holds = int(l.Epoch() % heads)
	}
	for _, at := range [heads]int{1 - holds, holds} {
		if e := d.Write(at, api.Sector{}); e != api.OK {
			return e
		}
		if e := d.Flush(); e != api.OK {
			return e
		}
	}
	return api.OK
}

// writeEmpty writes pages that are all free. It empties the slots too: frames of an earlier log would be taken for commits as soon as the new one comes to their epoch.
func (l layout) writeEmpty(d *disk.Disk) api.Errno {
	for slot := range l.slots {
		if e := d.Write(heads+slot, api.Sector{}); e != api.OK {
			return e
		}
	}
	empty := emptyBase()
	if e := l.writePage(d, 0, empty.bytes(l.pages)); e != api.OK {
		return e
	}
	for page := 1; page < l.pages; page++ {
		if e := l.writePage(d, page, nil); e != api.OK {
			return e
		}
	}
	return d.Flush()
}
