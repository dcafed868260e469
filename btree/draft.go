package btree

import (
	"ramble/api"
	"ramble/node"
)

// draft is a change of a tree that was thought out, and not begun: so nothing has changed where a page is no node, or there is no room.
//
// Pages that are to be made have numbers from MaxPages on until then; these take as many bytes in a node as any page's number does, or more.
type draft struct {
	tree   *Tree
	seen   map[int]struct{} // the pages that were read
	sheets []sheet
	loose  []int // the pages that become free
	fresh  int   // how many pages are to be made
	root   int
}

// sheet is what a page is to have, when it is told what numbers the pages get.
type sheet struct {
	page int
	form func(number func(page int) int) ([]byte, api.Errno)
}

// newDraft is one that begins with the nodes of a way. None of these stands on it twice: from there on the way would be the same again, and not come to a leaf.
func newDraft(t *Tree, way route) *draft {
	d := &draft{tree: t, seen: map[int]struct{}{}}
	for _, s := range way {
		d.seen[s.page] = struct{}{}
	}
	return d
}

// see notes that a page was read. In a tree none stands twice; one that does would be given two things, or freed and kept.
func (d *draft) see(page int) api.Errno {
	if _, is := d.seen[page]; is {
		return api.ErrTree
	}
	d.seen[page] = struct{}{}
	return api.OK
}

func (d *draft) read(page int) (api.Node, api.Errno) {
	if e := d.see(page); e != api.OK {
		return api.Node{}, e
	}
	return d.tree.node(page)
}

func (d *draft) free(page int) { d.loose = append(d.loose, page) }

func (d *draft) newPage() int {
	d.fresh++
	return api.MaxPages + d.fresh - 1
}

// set gives a page a node.
func (d *draft) set(page int, n api.Node) {
	d.sheets = append(d.sheets, sheet{page, func(number func(int) int) ([]byte, api.Errno) {
		return node.Bytes(renumbered(n, number))
	}})
}

// lay gives a new page a node: the page.
func (d *draft) lay(n api.Node) int {
	page := d.newPage()
	d.set(page, n)
	return page
}

// cell is a key with a value, which goes to pages of its own, if it is too long.
func (d *draft) cell(key, val []byte) api.Cell {
	if len(val) <= api.MaxInline {
		return api.Cell{Key: key, Val: val}
	}
	c := api.Cell{Key: key, Len: len(val)}
	last := (len(val) - 1) / api.MaxChunk
	// From the last piece on: each page has the number of the one behind it.
	for i := last; i >= 0; i-- {
		chunk := val[i*api.MaxChunk : min((i+1)*api.MaxChunk, len(val))]
		c.Over = d.layChunk(c.Over, chunk)
	}
	return c
}

func (d *draft) layChunk(next int, chunk []byte) int {
	page := d.newPage()
	d.sheets = append(d.sheets, sheet{page, func(number func(int) int) ([]byte, api.Errno) {
		return chunkBytes(number(next), chunk), api.OK
	}})
	return page
}

// freeValue frees the pages that a cell's value has.
func (d *draft) freeValue(c api.Cell) api.Errno {
	pages, _, e := d.tree.over(c)
	if e != api.OK {
		return e
	}
	for _, page := range pages {
		if e := d.see(page); e != api.OK {
			return e
		}
		d.free(page)
	}
	return api.OK
}

// renumbered is n with other numbers of pages.
func renumbered(n api.Node, number func(page int) int) api.Node {
	n = node.Clone(n)
	for i := range n.Cells {
		n.Cells[i].Over = number(n.Cells[i].Over)
	}
	for i := range n.Kids {
		n.Kids[i] = number(n.Kids[i])
	}
	return n
}

// carryOut makes the change, if all that is to stand in pages may be, and there is room for it.
func (d *draft) carryOut() api.Errno {
	if !d.mayBe() {
		return api.ErrTree
	}
	p := d.tree.pages
	switch {
	case d.fresh > p.Left()+len(d.loose):
		return api.ErrFull
	case len(d.sheets) > p.Pool()-p.Staged():
		// Some of the pages may be staged already, or be freed, but which ones are the pager does not tell.
		return api.ErrPool
	}
	return d.stage()
}

// mayBe tells whether all that is to stand in pages may be: of pages that no tree are, keys may come together that do not rise.
func (d *draft) mayBe() bool {
	for _, s := range d.sheets {
		if _, e := s.form(func(page int) int { return min(page, api.MaxPages-1) }); e != api.OK {
			return false
		}
	}
	return true
}

// stage hands the change to the pager, which refuses none of it any more.
func (d *draft) stage() api.Errno {
	p := d.tree.pages
	for _, page := range d.loose {
		if e := p.Free(page); e != api.OK {
			return e
		}
	}
	var made []int
	for range d.fresh {
		page, e := p.Alloc()
		if e != api.OK {
			return e
		}
		made = append(made, page)
	}
	number := func(page int) int {
		if page < api.MaxPages {
			return page
		}
		return made[page-api.MaxPages]
	}
	for _, s := range d.sheets {
		b, e := s.form(number)
		if e != api.OK {
			return e
		}
		if e := p.Set(number(s.page), b); e != api.OK {
			return e
		}
	}
	return p.SetWord(d.tree.word, int64(number(d.root)))
}
