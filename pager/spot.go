package pager

import (
	"bytes"

	"ramble/api"
	"ramble/num"
	"ramble/sector"
)

// How the log numbers its frames (chapter 6).
const (
	partKind  = 2
	lastKind  = 3
	epochStep = 1 << 16
)

// spot is where the log has a page's bytes. So a page that was committed can leave the memory ahead of the next Checkpoint, and its sectors are left alone until then.
type spot struct {
	slot   int // the first one of the commit's slots
	frames int // how many slots the commit takes
	at     int // behind how many of the commit's bytes the page's bytes begin
	length int
}

// spots is where the pages' bytes stand in a commit of these records, which begins in a slot.
func spots(slot int, pages []int, records [][]byte) []spot {
	at := numberLen(len(records))
	var l []spot
	for i, r := range records {
		at += numberLen(len(r))
		number := numberLen(pages[i])
		l = append(l, spot{slot: slot, at: at + number, length: len(r) - number})
		at += len(r)
	}
	for i := range l {
		l[i].frames = (at + api.MaxPay - 1) / api.MaxPay
	}
	return l
}

func numberLen(n int) int { return len(num.Put(nil, uint64(n))) }

// readLogged is what the log has at a spot.
func (p *Pager) readLogged(s spot) ([]byte, api.Errno) {
	var pieces [][]byte
	for i := s.at / api.MaxPay; i*api.MaxPay < s.at+s.length; i++ {
		piece, e := p.readFrame(s, i)
		if e != api.OK {
			return nil, damageOr(e)
		}
		pieces = append(pieces, piece)
	}
	b := sector.Join(pieces...)
	skip := s.at % api.MaxPay
	if len(b) < skip+s.length {
		return nil, api.ErrDamage
	}
	return bytes.Clone(b[skip : skip+s.length]), api.OK
}

// readFrame is the bytes of one of the frames of a spot's commit.
func (p *Pager) readFrame(s spot, i int) ([]byte, api.Errno) {
	kind := partKind
	if i == s.frames-1 {
		kind = lastKind
	}
	slot := s.slot + i
	return sector.Get(p.disk, heads+slot, kind, p.log.Epoch()*epochStep+int64(slot))
}
