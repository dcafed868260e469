package btree

import (
	"bytes"
	"iter"
	"slices"

	"ramble/api"
	"ramble/node"
)

// kidsOf tells the kids of an inner node in which the keys on one side of a key are, the nearest one first.
type kidsOf func(n api.Node, key []byte) iter.Seq[int]

func kidsFrom(n api.Node, key []byte) iter.Seq[int] {
	return slices.Values(n.Kids[node.Child(n, key):])
}

func kidsBelow(n api.Node, key []byte) iter.Seq[int] {
	return func(yield func(int) bool) {
		for _, kid := range slices.Backward(n.Kids[:node.Child(n, key)+1]) {
			if !yield(kid) {
				return
			}
		}
	}
}

// walk goes through the leaves on one side of a key.
type walk struct {
	tree *Tree
	key  []byte
	kids kidsOf
	left int  // how many nodes it may read: a tree has no more than there are pages
	lost bool // whether there was an error, behind which nothing is told
}

// leaves tells the leaves on one side of a key, the nearest one first; with an error it ends.
func (t *Tree) leaves(key []byte, kids kidsOf) iter.Seq[api.Node] {
	root, e := t.root()
	if e != api.OK || root == 0 {
		return func(func(api.Node) bool) {}
	}
	w := &walk{tree: t, key: key, kids: kids, left: t.pages.Pages()}
	return w.under(root, 1)
}

// under tells the leaves under a page, which stands on a level.
func (w *walk) under(page, level int) iter.Seq[api.Node] {
	return func(yield func(api.Node) bool) {
		n := w.node(page, level)
		switch {
		case w.lost:
			return
		case n.Leaf:
			yield(n)
			return
		}
		for kid := range w.kids(n, w.key) {
			for leaf := range w.under(kid, level+1) {
				if !yield(leaf) {
					return
				}
			}
			if w.lost {
				return
			}
		}
	}
}

// node is the node of a page; the walk is lost, if there is none, or no tree would have it here.
func (w *walk) node(page, level int) api.Node {
	if w.left == 0 || level > maxLevels {
		w.lost = true
		return api.Node{}
	}
	w.left--
	n, e := w.tree.node(page)
	w.lost = e != api.OK
	return n
}

// from is the first cell whose key is not below a key; false, if there is none, or with an error of the pages.
func (t *Tree) from(key []byte) (api.Cell, bool) {
	for leaf := range t.leaves(key, kidsFrom) {
		if at, _ := node.Find(leaf, key); at < len(leaf.Cells) {
			return leaf.Cells[at], true
		}
	}
	return api.Cell{}, false
}

// below is the last cell whose key is below a key; false, likewise.
func (t *Tree) below(key []byte) (api.Cell, bool) {
	for leaf := range t.leaves(key, kidsBelow) {
		if at, _ := node.Find(leaf, key); at > 0 {
			return leaf.Cells[at-1], true
		}
	}
	return api.Cell{}, false
}

// above is the first cell whose key is above a key: nothing lies between a key and the same with a byte 0 behind it.
func (t *Tree) above(key []byte) (api.Cell, bool) { return t.from(append(bytes.Clone(key), 0)) }

// cells tells the cells from a key on, rising. Each is looked for anew, behind the one that was told last, since the tree may change meanwhile.
func (t *Tree) cells(from []byte) iter.Seq[api.Cell] {
	return func(yield func(api.Cell) bool) {
		c, is := t.from(from)
		for is && yield(c) {
			c, is = t.above(c.Key)
		}
	}
}

// All goes through keys and values from one key on (nil: the first one), below another one (nil: to the end).
func (t *Tree) All(from, to []byte) iter.Seq2[[]byte, []byte] {
	if !t.made() {
		return func(func([]byte, []byte) bool) {}
	}
	from, to = bytes.Clone(from), bytes.Clone(to)
	return func(yield func([]byte, []byte) bool) {
		for c := range t.cells(from) {
			if len(to) > 0 && bytes.Compare(c.Key, to) >= 0 {
				return
			}
			val, e := t.value(c)
			// Whoever is told a key may change it; the next one is looked for behind what it was.
			if e != api.OK || !yield(bytes.Clone(c.Key), val) {
				return
			}
		}
	}
}
