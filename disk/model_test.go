package disk

import (
	"fmt"
	"slices"
	"strings"

	"ramble/api"
)

// text tells a view shortly, by the first byte of each sector.
func (v view) text() string {
	var b strings.Builder
	fmt.Fprintf(&b, "down %v, %d sectors, %d calls, dirty %v, fuse %d", v.down, v.sectors, v.calls, v.dirty, v.fuse)
	for i, l := range [][]answer{v.now, v.lost, v.all} {
		fmt.Fprintf(&b, "; %s:", []string{"now", "lost", "all"}[i])
		for _, a := range l {
			fmt.Fprintf(&b, " %d/%d", a.s[0], a.e)
		}
	}
	return b.String()
}

// cell is a sector of the model: all that was ever written to it since it was whole, from what stays on.
type cell struct {
	torn   bool
	stays  api.Sector
	writes []api.Sector
}

// model is the chapter once more, by plain lists: no map, and a fuse that is told by the number of the call at which it burns.
type model struct {
	cells []cell
	down  bool
	tried int // calls, with those at which the power went
	burns int // the number of the call at which the power goes
	calls int64
}

func newModel(sectors int) *model { return &model{cells: make([]cell, sectors), burns: -1} }

func (m *model) copy() *model {
	c := *m
	c.cells = nil
	for _, x := range m.cells {
		x.writes = slices.Clone(x.writes)
		c.cells = append(c.cells, x)
	}
	return &c
}

func (m *model) read(n int) answer {
	switch {
	case m.down:
		return answer{e: api.ErrDown}
	case n < 0 || n >= len(m.cells):
		return answer{e: api.ErrPlace}
	}
	return m.cells[n].answer()
}

func (c cell) answer() answer {
	switch {
	case len(c.writes) > 0:
		return answer{s: c.writes[len(c.writes)-1]}
	case c.torn:
		return answer{e: api.ErrTorn}
	}
	return answer{s: c.stays}
}

func (m *model) call() bool {
	m.tried++
	if m.tried == m.burns {
		m.down = true
		return false
	}
	m.calls++
	return true
}

func (m *model) write(n int, s api.Sector) api.Errno {
	if e := m.read(n).e; e != api.OK && e != api.ErrTorn {
		return e
	}
	if !m.call() {
		return api.ErrDown
	}
	m.cells[n].writes = append(m.cells[n].writes, s)
	return api.OK
}

func (m *model) flush() api.Errno {
	if m.down || !m.call() {
		return api.ErrDown
	}
	for n, c := range m.cells {
		m.cells[n] = c.settled(true)
	}
	return api.OK
}

// settled is the cell behind a flush, or a crash that keeps it or does not.
func (c cell) settled(kept bool) cell {
	if kept && len(c.writes) > 0 {
		return cell{stays: c.writes[len(c.writes)-1]}
	}
	return cell{torn: c.torn, stays: c.stays}
}

func (m *model) setFuse(calls int) api.Errno {
	switch {
	case m.down:
		return api.ErrDown
	case calls < 0:
		return api.ErrArg
	case calls == 0:
		m.burns = -1
	default:
		m.burns = m.tried + calls
	}
	return api.OK
}

func (m *model) dirty() []int {
	var l []int
	for n, c := range m.cells {
		if len(c.writes) > 0 {
			l = append(l, n)
		}
	}
	return l
}

// decide goes the other way round: first the truths of all dirty sectors, then what is kept, then what is torn.
func (m *model) decide(torn int, keep []bool) {
	dirty := m.dirty()
	var truths []bool
	for len(keep) > 0 && len(truths) < len(dirty) {
		truths = append(truths, keep...)
	}
	place := 0
	for i, n := range dirty {
		kept := i < len(truths) && truths[i]
		m.cells[n] = m.cells[n].settled(kept)
		if kept && place == torn {
			m.cells[n] = cell{torn: true}
		}
		if kept {
			place++
		}
	}
}

func (m *model) crash(torn int, keep []bool) api.Errno {
	if m.down {
		return api.ErrDown
	}
	m.down = true
	m.decide(torn, keep)
	return api.OK
}

func (m *model) start(torn int, keep []bool) api.Errno {
	if !m.down {
		return api.ErrArg
	}
	m.down = false
	m.decide(torn, keep)
	return api.OK
}

// burst takes the sector bit by bit, as the chapter counts them.
func (m *model) burst(n, at int, bits uint32) api.Errno {
	if n < 0 || n >= len(m.cells) {
		return api.ErrPlace
	}
	if at < 0 || at > 1023 {
		return api.ErrArg
	}
	s := &m.cells[n].stays
	for k := range 128 {
		for j := range 8 {
			if i := 8*k + j - at; i >= 0 && i < 32 && bits&(1<<i) != 0 {
				s[k] ^= 1 << j
			}
		}
	}
	return api.OK
}

// view is what a disk like the model tells.
func (m *model) view() view {
	v := view{down: m.down, sectors: len(m.cells), calls: m.calls, dirty: m.dirty()}
	for n, c := range m.cells {
		v.now = append(v.now, m.read(n))
		v.lost = append(v.lost, c.settled(false).answer())
		v.all = append(v.all, c.settled(true).answer())
	}
	if ahead := m.burns - m.tried; ahead > 0 && ahead <= most {
		v.fuse = ahead
	}
	return v
}
