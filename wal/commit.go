package wal

import (
	"bytes"

	"ramble/api"
	"ramble/num"
	"ramble/sector"
)

// Kinds of a commit's frames.
const (
	partKind = 2 // one behind which others of the commit stand
	lastKind = 3
)

// epochStep lies between the numbers of one slot's frames in two epochs that follow each other: more than there are slots, so that no number is there twice.
const epochStep = 1 << 16

// Frames is how many frames records take as a commit. It is reckoned without laying the bytes out, since these may be far more than any log has room for.
func Frames(records ...[]byte) int {
	length := numberLen(len(records))
	for _, r := range records {
		length += numberLen(len(r)) + len(r)
	}
	return (length + api.MaxPay - 1) / api.MaxPay
}

func numberLen(n int) int { return len(num.Put(nil, uint64(n))) }

// commitBytes is records as the bytes of a commit.
func commitBytes(records ...[]byte) []byte {
	b := num.Put(nil, uint64(len(records)))
	for _, r := range records {
		b = append(b, num.Put(nil, uint64(len(r)))...)
		b = append(b, r...)
	}
	return b
}

// recordsOf is the records whose bytes as a commit b is, each in memory of its own; false, if b is no commit's.
func recordsOf(b []byte) ([][]byte, bool) {
	count, length, e := num.Take(b)
	if e != api.OK {
		return nil, false
	}
	b = b[length:]
	var records [][]byte
	// The count may be a lie, so it asks for no room: each record takes bytes that must be there.
	for ; count > 0; count-- {
		size, length, e := num.Take(b)
		if e != api.OK || size > uint64(len(b)-length) {
			return nil, false
		}
		end := length + int(size)
		records = append(records, bytes.Clone(b[length:end]))
		b = b[end:]
	}
	return records, len(b) == 0
}

// sectorOf is the sector of a slot.
func sectorOf(slot int) int { return heads + slot }

// number is the N of the frame in a slot, in the epoch that holds.
func (l *Log) number(slot int) int64 { return l.head.epoch*epochStep + int64(slot) }

// writeCommit writes a commit's frames behind those that are used, and makes them stay.
func (l *Log) writeCommit(records ...[]byte) api.Errno {
	pieces := sector.Cut(commitBytes(records...))
	for i, piece := range pieces {
		slot := l.used + i
		f := api.Frame{Kind: partKind, N: l.number(slot), Pay: piece}
		if i == len(pieces)-1 {
			f.Kind = lastKind
		}
		if e := sector.Put(l.disk, sectorOf(slot), f); e != api.OK {
			return e
		}
	}
	return l.disk.Flush()
}

// readCommits is all commits from the first slot on, up to the first one that is not whole; their slots are used.
func (l *Log) readCommits() [][][]byte {
	var commits [][][]byte
	for {
		records, frames := l.readCommit()
		if frames == 0 {
			return commits
		}
		commits = append(commits, records)
		l.used += frames
	}
}

// readCommit is the commit behind the slots that are used, and how many frames it takes: 0, if none is there whole.
func (l *Log) readCommit() ([][]byte, int) {
	pieces := l.readPieces()
	records, are := recordsOf(sector.Join(pieces...))
	if !are {
		return nil, 0
	}
	return records, len(pieces)
}

// readPieces is what the frames have behind the slots that are used, up to the next one that ends a commit; nothing, if one of them is none of a commit of this epoch.
func (l *Log) readPieces() [][]byte {
	var pieces [][]byte
	for slot := l.used; slot < l.head.slots; slot++ {
		f, is := readFrame(l.disk, sectorOf(slot))
		if !is || f.N != l.number(slot) {
			return nil
		}
		pieces = append(pieces, f.Pay)
		switch f.Kind {
		case lastKind:
			return pieces
		case partKind:
		default:
			return nil
		}
	}
	return nil
}
