package btree

import (
	"bytes"

	"ramble/api"
	"ramble/node"
	"ramble/num"
)

// root is the root's page, 0 of an empty tree.
func (t *Tree) root() (int, api.Errno) {
	n, e := t.pages.Word(t.word)
	if e != api.OK {
		return 0, e
	}
	if n < 0 || n >= api.MaxPages {
		return 0, api.ErrTree
	}
	return int(n), api.OK
}

// page is a page's bytes. A tree has no page that is free.
func (t *Tree) page(page int) ([]byte, api.Errno) {
	b, e := t.pages.Get(page)
	if e == api.ErrNone {
		return nil, api.ErrTree
	}
	return b, e
}

// node is the node that a page has.
func (t *Tree) node(page int) (api.Node, api.Errno) {
	b, e := t.page(page)
	if e != api.OK {
		return api.Node{}, e
	}
	n, e := node.Parse(b)
	if e != api.OK {
		return api.Node{}, api.ErrTree
	}
	return n, api.OK
}

// value is a cell's value.
func (t *Tree) value(c api.Cell) ([]byte, api.Errno) {
	if c.Over == 0 {
		return bytes.Clone(c.Val), api.OK
	}
	_, val, e := t.over(c)
	return val, e
}

// over is the pages that a cell's value has, and what stands in them. Of each page but the last one MaxChunk bytes are the value's, so that there are just as many pages as Len asks for, whatever they say.
func (t *Tree) over(c api.Cell) ([]int, []byte, api.Errno) {
	if c.Over == 0 {
		return nil, nil, api.OK
	}
	if c.Len > api.MaxVal {
		return nil, nil, api.ErrTree
	}
	var pages []int
	var val []byte
	next := c.Over
	for len(val) < c.Len {
		b, e := t.page(next)
		if e != api.OK {
			return nil, nil, e
		}
		pages = append(pages, next)
		var chunk []byte
		next, chunk = chunkOf(b)
		if len(chunk) != min(api.MaxChunk, c.Len-len(val)) {
			return nil, nil, api.ErrTree
		}
		val = append(val, chunk...)
	}
	if next != 0 {
		return nil, nil, api.ErrTree
	}
	return pages, val, api.OK
}

// chunkBytes is what a page of a value has: the number of the next one, or 0, and a piece of the value.
func chunkBytes(next int, chunk []byte) []byte { return append(num.Put(nil, uint64(next)), chunk...) }

// chunkOf is the next page and the piece whose bytes are b; nothing, if there are none such. (No piece is empty.)
func chunkOf(b []byte) (int, []byte) {
	next, length, e := num.Take(b)
	if e != api.OK || next >= api.MaxPages {
		return 0, nil
	}
	return int(next), b[length:]
}
