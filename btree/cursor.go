package btree

import (
	"bytes"

	"ramble/api"
)

// Cursor is a key of a tree at which one stands. It keeps the key alone, and looks for its place anew, so that the tree may change.
type Cursor struct {
	*Tree
	key []byte // nil: it stands nowhere
}

// Seek is a cursor at the first key that is not below key.
func (t *Tree) Seek(key []byte) *Cursor {
	if !t.made() {
		return nil
	}
	c := &Cursor{Tree: t}
	c.standAt(c.from(key))
	return c
}

// Last is a cursor at the last key.
func (t *Tree) Last() *Cursor {
	if !t.made() {
		return nil
	}
	c := &Cursor{Tree: t}
	c.standAt(c.below(beyond()))
	return c
}

// beyond is what all keys are below.
func beyond() []byte { return bytes.Repeat([]byte{255}, api.MaxKey+1) }

// standAt moves to a cell, or nowhere: whether it is to a cell.
func (c *Cursor) standAt(cell api.Cell, is bool) bool {
	c.key = cell.Key
	return is
}

func (c *Cursor) stands() bool { return c != nil && c.made() && c.key != nil }

// Key is the key at which the cursor stands; false, if it stands nowhere.
func (c *Cursor) Key() ([]byte, bool) {
	if !c.stands() {
		return nil, false
	}
	return bytes.Clone(c.key), true
}

// Val is the value of the key at which the cursor stands.
func (c *Cursor) Val() ([]byte, api.Errno) {
	switch {
	case c == nil || !c.made():
		return nil, api.ErrMade
	case c.key == nil:
		return nil, api.ErrNone
	}
	return c.Get(c.key)
}

// Next goes to the first key above; false, if there is none: then the cursor stands nowhere.
func (c *Cursor) Next() bool { return c.stands() && c.standAt(c.above(c.key)) }

// Prev goes to the last key below; false, if there is none: then the cursor stands nowhere.
func (c *Cursor) Prev() bool { return c.stands() && c.standAt(c.below(c.key)) }
