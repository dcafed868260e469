package btree

import (
	"bytes"

	"ramble/api"
)

// survey is what was found in the part of a tree that was gone through.
type survey struct {
	tree   *Tree
	seen   [api.MaxPages]bool
	keys   int
	pages  int
	bottom int // the level of the leaves; 0, ahead of the first one
}

// Check goes through the whole tree: how many keys there are, and how many pages it has.
func (t *Tree) Check() (int, int, api.Errno) {
	if !t.made() {
		return 0, 0, api.ErrMade
	}
	root, e := t.root()
	if e != api.OK || root == 0 {
		return 0, 0, e
	}
	s := &survey{tree: t}
	if e := s.node(root, 1, nil, nil); e != api.OK {
		return 0, 0, e
	}
	return s.keys, s.pages, api.OK
}

// page counts a page, which may stand in the tree once.
func (s *survey) page(page int) api.Errno {
	if s.seen[page] {
		return api.ErrTree
	}
	s.seen[page] = true
	s.pages++
	return api.OK
}

// node goes through all that stands under a page. All keys there must not be below from, and must be below to (nil: any may be).
func (s *survey) node(page, level int, from, to []byte) api.Errno {
	if e := s.page(page); e != api.OK {
		return e
	}
	n, e := s.tree.node(page)
	switch {
	case e != api.OK:
		return e
	case n.Leaf:
		return s.leaf(n, level, from, to)
	case len(n.Keys) == 0:
		return api.ErrTree
	}
	// That its keys lie between those above it is seen in the leaves, of which none is empty.
	for i, kid := range n.Kids {
		low, high := from, to
		if i > 0 {
			low = n.Keys[i-1]
		}
		if i < len(n.Keys) {
			high = n.Keys[i]
		}
		if e := s.node(kid, level+1, low, high); e != api.OK {
			return e
		}
	}
	return api.OK
}

func (s *survey) leaf(n api.Node, level int, from, to []byte) api.Errno {
	if s.bottom == 0 {
		s.bottom = level
	}
	if level != s.bottom || len(n.Cells) == 0 || !between(n.Cells, from, to) {
		return api.ErrTree
	}
	s.keys += len(n.Cells)
	for _, c := range n.Cells {
		pages, _, e := s.tree.over(c)
		if e != api.OK {
			return e
		}
		for _, page := range pages {
			if e := s.page(page); e != api.OK {
				return e
			}
		}
	}
	return api.OK
}

// between tells whether all cells have keys that are not below from, and below to (nil: any may be). They rise, as in every node.
func between(cells []api.Cell, from, to []byte) bool {
	first, last := cells[0].Key, cells[len(cells)-1].Key
	return bytes.Compare(from, first) <= 0 && (to == nil || bytes.Compare(last, to) < 0)
}
