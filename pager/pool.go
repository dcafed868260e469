package pager

import (
	"bytes"
	"maps"
	"slices"

	"ramble/api"
)

// sheet is a page's bytes in memory.
type sheet struct {
	room   [api.PageLen]byte
	length int
}

func sheetOf(b []byte) sheet {
	var s sheet
	s.length = copy(s.room[:], b)
	return s
}

func (s sheet) bytes() []byte { return bytes.Clone(s.room[:s.length]) }

// pool is the pages that are held. No page is staged and kept at once, so that together they are no more than the room is.
type pool struct {
	room   int
	staged map[int]sheet // changed, and not committed
	kept   map[int]sheet // as they were committed
	turns  []int         // those that are kept; the first one was asked for longest ago
}

func newPool(room int) pool {
	return pool{room: room, staged: map[int]sheet{}, kept: map[int]sheet{}}
}

func (p *pool) held() int { return len(p.staged) + len(p.kept) }

// isFull tells whether all that are held are staged, so that none can leave.
func (p *pool) isFull() bool { return len(p.staged) == p.room }

func (p *pool) hasStaged(page int) bool {
	_, is := p.staged[page]
	return is
}

// find is the bytes of a page that is held.
func (p *pool) find(page int) ([]byte, bool) {
	if s, is := p.staged[page]; is {
		return s.bytes(), true
	}
	s, is := p.kept[page]
	if !is {
		return nil, false
	}
	p.leaveTurns(page)
	p.turns = append(p.turns, page)
	return s.bytes(), true
}

// stage makes a page staged. The pool may not be full, unless the page is staged already.
func (p *pool) stage(page int, b []byte) {
	p.drop(page)
	p.makeRoom()
	p.staged[page] = sheetOf(b)
}

// keep holds what a page has that was read, if there is room.
func (p *pool) keep(page int, b []byte) {
	if p.isFull() {
		return
	}
	p.makeRoom()
	p.kept[page] = sheetOf(b)
	p.turns = append(p.turns, page)
}

// makeRoom takes out one page that is kept, if there is no room for another one.
func (p *pool) makeRoom() {
	if p.held() == p.room {
		p.drop(p.turns[0])
	}
}

// drop holds a page no more.
func (p *pool) drop(page int) {
	delete(p.staged, page)
	delete(p.kept, page)
	p.leaveTurns(page)
}

func (p *pool) leaveTurns(page int) {
	p.turns = slices.DeleteFunc(p.turns, func(other int) bool { return other == page })
}

// stagedPages is the pages that are staged, rising.
func (p *pool) stagedPages() []int { return slices.Sorted(maps.Keys(p.staged)) }

// settle keeps all that was staged, as it was committed.
func (p *pool) settle() {
	for _, page := range p.stagedPages() {
		p.kept[page] = p.staged[page]
		p.turns = append(p.turns, page)
	}
	clear(p.staged)
}

// forget holds what was staged no more.
func (p *pool) forget() { clear(p.staged) }
