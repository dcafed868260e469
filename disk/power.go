package disk

import "ramble/api"

// call counts one write or flush, ahead of what it does; ErrDown, if it is the one at which the power goes.
func (d *Disk) call() api.Errno {
	if d.fuse > 0 {
		d.fuse--
		d.down = d.fuse == 0
	}
	if d.down {
		return api.ErrDown
	}
	d.calls++
	return api.OK
}

// SetFuse lets the power go at a write or a flush to come: 1 is the next one, 0 is none.
func (d *Disk) SetFuse(calls int) api.Errno {
	if e := d.ready(); e != api.OK {
		return e
	}
	if calls < 0 {
		return api.ErrArg
	}
	d.fuse = calls
	return api.OK
}

// Crash lets the power go at once, and decides what is left of what was not flushed.
func (d *Disk) Crash(torn int, keep ...bool) api.Errno {
	if e := d.ready(); e != api.OK {
		return e
	}
	d.decide(torn, keep)
	d.down = true
	return api.OK
}

// Start lets the power come back; if it went by a fuse, it is decided now what is left of what was not flushed.
func (d *Disk) Start(torn int, keep ...bool) api.Errno {
	if !d.made() {
		return api.ErrMade
	}
	if !d.down {
		return api.ErrArg
	}
	d.decide(torn, keep)
	d.down = false
	return api.OK
}

// Down tells whether the power is away.
func (d *Disk) Down() bool { return d.made() && d.down }

// decide lets all sectors leave the cache: those that keep tells, by turns, are written, and of these the one at the place torn is torn.
func (d *Disk) decide(torn int, keep []bool) {
	var kept []int
	for i, n := range d.Dirty() {
		if len(keep) > 0 && keep[i%len(keep)] {
			d.places[n] = place{stays: d.cache[n]}
			kept = append(kept, n)
		}
		delete(d.cache, n)
	}
	if torn >= 0 && torn < len(kept) {
		d.places[kept[torn]] = place{torn: true}
	}
}
