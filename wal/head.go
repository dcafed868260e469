package wal

import (
	"ramble/api"
	"ramble/disk"
	"ramble/num"
	"ramble/sector"
)

const (
	headKind = 1
	maxEpoch = 1 << 40
	maxNote  = 64
)

// heads is how many sectors have heads. By turns they get the head of the next epoch, so that the one that holds is never written over.
const heads = 2

// head is what a head says.
type head struct {
	epoch int64
	slots int
	note  []byte
}

// isRight tells a head from one that was not there: that has the epoch 0.
func (h head) isRight() bool { return h.epoch > 0 }

// at is the sector in which the head stands.
func (h head) at() int { return int(h.epoch % heads) }

// write makes the head stay on the disk, and with it the epoch hold.
func (h head) write(d *disk.Disk) api.Errno {
	pay := append(num.Put(nil, uint64(h.slots)), h.note...)
	f := api.Frame{Kind: headKind, N: h.epoch, Pay: pay}
	if e := sector.Put(d, h.at(), f); e != api.OK {
		return e
	}
	return d.Flush()
}

// maySlots tells whether a log on d may have so many slots.
func maySlots(d *disk.Disk, slots int) bool {
	return slots >= 1 && slots <= api.MaxSlots && heads+slots <= d.Sectors()
}

// newestHead is the right head with the greatest epoch, or none.
func newestHead(d *disk.Disk) head {
	var both [heads]head
	for at := range both {
		both[at] = readHead(d, at)
	}
	if both[0].epoch > both[1].epoch {
		return both[0]
	}
	return both[1]
}

// readHead is the right head that stands in a sector, or none.
func readHead(d *disk.Disk, at int) head {
	f, is := readFrame(d, at)
	if !is || f.Kind != headKind || f.N < 1 || f.N > maxEpoch {
		return head{}
	}
	slots, length, e := num.Take(f.Pay)
	if e != api.OK || slots > api.MaxSlots || !maySlots(d, int(slots)) {
		return head{}
	}
	h := head{epoch: f.N, slots: int(slots), note: f.Pay[length:]}
	if h.at() != at {
		return head{}
	}
	return h
}

// readFrame is the frame that stands in a sector; a sector that cannot be read has none.
func readFrame(d *disk.Disk, at int) (api.Frame, bool) {
	s, e := d.Read(at)
	if e != api.OK {
		return api.Frame{}, false
	}
	f, e := sector.Open(s)
	return f, e == api.OK
}
